/-
  A NET IN MEMORY: its block, its agenda, its letters; New, Len, Send of an ask.
-/
import Derived.Test.YtkdaifcnlobhkaaNtk
import Derived.Test.YtkdaifcnlobhkaaNmp
import Derived.Test.YtkdaifcnlobhkaaADrop
namespace Go.Proofs.Ytkdaifcnlobhkaa
open Go.RowKit
/-- an ask: of whom, to whom, its term -/
structure Ask where
  f : Int
  t : Int
  m : Int
structure OkA (a : Ask) : Prop where
  f : 0 ≤ a.f ∧ a.f < 7
  t : 0 ≤ a.t ∧ a.t < 7
  m : 0 ≤ a.m ∧ a.m ≤ 549755813888
  ne : a.f ≠ a.t
/-- A NET: it lies at N, behind w0's end; Z is the last number; R are the items in order; G tells the asks by their numbers; C who is cut off -/
structure NetP (w0 : World) (N : Nat) (Z : Int) (R : List Ag.It) (C : Int → Int → Bool) (A : Nat) (r : Option Nat) (M : Nat) (F : Lf) (cs : Array Value) (w : World) : Prop where
  k : Blk w N 62 cs
  k0 : cs[0]? = some (.pointer (some ⟨A, 0, none⟩))
  k1 : cs[1]? = some (.map (some M))
  kc : ∀ f t : Nat, f < 7 → t < 7 → cs[2 + f * 7 + t]? = some (.bool (C f t))
  a : Ag.Agd w w0.heap.size A Z r R
  l : Lts w M Z.toNat F
  hN : w0.heap.size ≤ N
  hA : w0.heap.size ≤ A
  hM : w0.heap.size ≤ M
  nA : N ≠ A
  nM : N ≠ M
  mA : M ≠ A
  rN : r ≠ some N
  rM : r ≠ some M
  b : Below w0.heap.size w0 w
  z : 0 ≤ Z
/-- the letters of what is under way -/
def LetG (R : List Ag.It) (G : Int → Ask) (F : Lf) : Prop := ∀ x ∈ R, F x.i = some (askS (G x.i).f (G x.i).t (G x.i).m) ∧ OkA (G x.i)
def NetS (w0 : World) (N : Nat) (Z : Int) (R : List Ag.It) (G : Int → Ask) (C : Int → Int → Bool) (w : World) : Prop := ∃ A r M F cs, NetP w0 N Z R C A r M F cs w ∧ LetG R G F
section
variable {w0 w w' : World} {N A M : Nat} {Z : Int} {R : List Ag.It} {G : Int → Ask} {C : Int → Int → Bool} {r : Option Nat} {F : Lf} {cs : Array Value}
theorem NetP.next (h : NetP w0 N Z R C A r M F cs w) (b : Below w.heap.size w w') : NetP w0 N Z R C A r M F cs w' :=
  ⟨h.k.next b, h.k0, h.k1, h.kc, h.a.below b, h.l.next b, h.hN, h.hA, h.hM, h.nA, h.nM, h.mA, h.rN, h.rM, h.b.trans (b.mono h.b.size), h.z⟩
theorem NetS.next (h : NetS w0 N Z R G C w) (b : Below w.heap.size w w') : NetS w0 N Z R G C w' := by
  obtain ⟨A, r, M, F, cs, h, hg⟩ := h
  exact ⟨A, r, M, F, cs, h.next b, hg⟩
theorem NetS.bel (h : NetS w0 N Z R G C w) : Below w0.heap.size w0 w := by
  obtain ⟨A, r, M, F, cs, h, _⟩ := h
  exact h.b
theorem NetS.z (h : NetS w0 N Z R G C w) : 0 ≤ Z := by
  obtain ⟨A, r, M, F, cs, h, _⟩ := h
  exact h.z
theorem NetP.c0 (h : NetP w0 N Z R C A r M F cs w) : w.cell? ⟨N, 0, none⟩ = some (.pointer (some ⟨A, 0, none⟩)) := (h.k.cell 0).trans h.k0
theorem NetP.c1 (h : NetP w0 N Z R C A r M F cs w) : w.cell? ⟨N, 1, none⟩ = some (.map (some M)) := (h.k.cell 1).trans h.k1
theorem NetP.cc (h : NetP w0 N Z R C A r M F cs w) (f t : Nat) (hf : f < 7) (ht : t < 7) : w.cell? ⟨N, 2 + f * 7 + t, none⟩ = some (.bool (C f t)) := (h.k.cell _).trans (h.kc f t hf ht)
/-- the agenda turns -/
theorem NetP.tch {r' : Option Nat} {Z' : Int} {R' : List Ag.It} (h : NetP w0 N Z R C A r M F cs w) (t : Ag.Tch w w' A r r') (ha : Ag.Agd w' w0.heap.size A Z' r' R') (hZ : Z ≤ Z') : NetP w0 N Z' R' C A r' M F cs w' := by
  have rn : ∀ q, q < w.heap.size → r ≠ some q → r' ≠ some q := fun q hq hr e => by
    rcases t.own with e2 | ⟨k, e2, hk⟩
    · exact hr (e2 ▸ e)
    · rw [e2] at e; injection e with e; omega
  have hr := h.a.lt.2.1
  have hz := h.z
  exact ⟨(t.block N h.k.lt h.nA (fun e => h.rN e.symm)).trans h.k, h.k0, h.k1, h.kc, ha, (h.l.kept (t.block M h.l.lt h.mA (fun e => h.rM e.symm))).mono (by omega), h.hN, h.hA, h.hM, h.nA, h.nM, h.mA, rn N h.k.lt h.rN, rn M h.l.lt h.rM,
    h.b.trans ⟨t.os, t.tape, t.output, t.size, fun k hk => t.block k (Nat.lt_of_lt_of_le hk h.b.size) (by have := h.hA; omega) (fun e => by have := (hr k e.symm).1; omega)⟩, by omega⟩
/-- the letters turn -/
theorem NetP.lts {F' : Lf} {n' : Nat} (h : NetP w0 N Z R C A r M F cs w) (f : Fr w w' (fun q => q = M)) (hl : Lts w' M n' F') (hn : n' ≤ Z.toNat) : NetP w0 N Z R C A r M F' cs w' :=
  ⟨h.k.fr f h.nM, h.k0, h.k1, h.kc, by
    obtain ⟨v, l, h1, h2, h3⟩ := h.a
    refine ⟨v, l, h1, ⟨(f.block A h2.lt (fun e => h.mA e.symm)).trans h2.blk, Fr.own h2.own f (fun q hq e => h.rM (by rw [← h1, hq, e])), h2.small⟩, h3⟩, hl.mono hn, h.hN, h.hA, h.hM, h.nA, h.nM, h.mA, h.rN, h.rM,
    h.b.trans (f.below (fun q e => by rw [e]; exact h.hM) h.b.size), h.z⟩
theorem NetP.tchl {r' : Option Nat} (h : NetP w0 N Z R C A r M F cs w) (t : Ag.Tch w w' A r r') : Lts w' M Z.toNat F := h.l.kept (t.block M h.l.lt h.mA (fun e => h.rM e.symm))
theorem NetP.lts' {F' : Lf} {Z' : Int} (h : NetP w0 N (Z' + 1) R C A r M F cs w) (f : Fr w w' (fun q => q = M)) (hl : Lts w' M (Z'.toNat + 1) F') (hz : 0 ≤ Z') : NetP w0 N (Z' + 1) R C A r M F' cs w' :=
  h.lts f hl (by omega)
end
end Go.Proofs.Ytkdaifcnlobhkaa
