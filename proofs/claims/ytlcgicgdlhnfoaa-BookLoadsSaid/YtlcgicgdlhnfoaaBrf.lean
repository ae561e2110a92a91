/-
  A range over a function whose rounds all go on, and are told what they are handed: a law of my own over the kit's.
-/
import Derived.Test.YtlcgicgdlhnfoaaBcu
import Derived.RangeFuncNested
import Derived.RangeFuncBound
import Derived.RangeFuncCalls
import Derived.RangeFuncLeaves
import Derived.OwnWalkIn
import Derived.TacticsInMore
import Derived.LoopNIn
import Derived.LoopIn
namespace Go.Proofs.Ytlcgicgdlhnfoaa
open Go.RowKit
/-- no cells lie there -/
def NC (A : World) (l : Nat) : Prop := ∀ c t z, A.heap[l]? ≠ some (.cells c t z)
theorem fr_putObj (W : World) (l : Nat) (o : Obj) : Fr W (W.putObj l o) (fun q => q = l) := ⟨rfl, rfl, rfl, by simp, fun q _ hq => World.putObj_heap_other hq⟩
theorem Blk.nc {w : World} {g l : Nat} {t : TypeId} {cs : Array Value} (h : Blk w g t cs) (hn : NC w l) : g ≠ l := fun e => by subst e; exact hn _ _ _ h
theorem keeps_below {w w' : World} (h : Below w.heap.size w w') : KeepsOthers w w' := ⟨h.size, fun k o hk _ => (h.block k (Array.getElem?_eq_some_iff.1 hk).1).trans hk⟩
theorem keeps_fr {w w' : World} {P : Nat → Prop} (h : Fr w w' P) (hc : ∀ q o, P q → w.heap[q]? = some o → o.isCells = true) : KeepsOthers w w' := ⟨h.size, fun k o hk ho => by
  refine (h.block k (Array.getElem?_eq_some_iff.1 hk).1 (fun hp => ?_)).trans hk
  rw [hc k o hp hk] at ho
  exact absurd ho (by decide)⟩
/-- what an iterator gives, each round going on: X: what is known of what is handed over; Fb: the old blocks that the body may turn -/
def Gives {α : Type} (P : Program) (m gf : Nat) (lb : Array Value) (enc : α → Value) (X : α → World → Prop) (G S : List α → Prop) (Fb : Nat → Prop) (w : World) : Prop :=
  ∀ (l : Nat) (J : List α → World → Prop) (W : World), Below w.heap.size w W → (∀ s A B, J s A → Below A.heap.size A B → J s B) →
    (∀ pre x W1, J pre W1 → X x W1 → G (pre ++ [x]) → YieldAt Fence.wide (m - 1) P l #[enc x] W1 fun e W' => e = .returned (.bool true) ∧ J (pre ++ [x]) W' ∧ Fr W1 W' (fun q => Fb q ∨ w.heap.size ≤ q)) →
    J [] W → CallsIn Fence.wide m P gf (#[.func (.yield l) #[] #[]] ++ lb) W fun e W' => (∃ v, e = .returned v) ∧ ∃ xs, S xs ∧ J xs W'
/-- how a round's body must be left -/
def goesOn {α : Type} (I : List α → World → Prop) (Fb : Nat → Prop) (n : Nat) (xs : List α) (W W2 : World) : Exit → Act → World → Prop
  | .normal, _, W3 => KeepsOthers W2 W3 ∧ Fr W W3 (fun q => Fb q ∨ n ≤ q) ∧ I xs W3
  | _, _, _ => False
theorem range_law {P : Program} {α : Type} {g : Operand} {ps : Array Tmp} {assign body : Code} {Q : Exit → Act → World → Prop} {a : Act} {w : World} {m gf : Nat} {lb : Array Value}
    {enc : α → Value} {X : α → World → Prop} {G S : List α → Prop} {Fb : Nat → Prop}
    (h1 : 1 ≤ m) (hg : a.eval g = .func (.func gf) #[] lb) (eg : ∀ args w, (callFunc gf args).run P w = .ok (.enter gf args) w)
    (hseq : Gives P (m - 1) gf lb enc X G S Fb w) (hps : ps.size = 1) (I : List α → World → Prop)
    (hI : ∀ s A B, I s A → NC A (w.heap.size + 1) → Fr A B (fun q => q = w.heap.size + 1) → I s B) (h0 : I [] w)
    (hround : ∀ (l : Nat) (pre : List α) (x : α) (W : World), I pre W → X x W → G (pre ++ [x]) → w.heap.size + 1 < W.heap.size → NC W (w.heap.size + 1) →
      assign.wpIn (Fence.wide.inRound l) (m - 1 - 1) P (Exit.then (fun a₁ W1 => KeepsOthers W W1 ∧ ∀ W2, Fr W1 W2 (fun q => q = w.heap.size + 1) → NC W1 (w.heap.size + 1) → NC W2 (w.heap.size + 1) →
        body.wpIn (Fence.wide.inRound l) (m - 1 - 1) P (goesOn I Fb w.heap.size (pre ++ [x]) W W2) a₁ W2) (fun _ _ _ => False))
        { tmps := (ps.zip #[enc x]).foldl (fun t (p, v) => t.setIfInBounds p v) a.tmps, defers := [] } W)
    (hdone : ∀ (xs : List α) (W : World), S xs → I xs W → W.heap[w.heap.size]? = some (.deferred (some [])) → Q .normal { a with defers := { target := .collected w.heap.size, args := #[] } :: a.defers } W) :
    (Code.rangeFunc g ps assign body).wpIn Fence.wide m P Q a w := by
  refine wpIn_rangeFunc fun fn hfn => ?_
  obtain ⟨rc, hrc⟩ : ∃ rc : LoopState → Loop, rc = fun st => { state := st, pending := none, fn, tmps := a.tmps, params := ps, assign, body, defers := w.heap.size } := ⟨_, rfl⟩
  obtain ⟨V, hV⟩ : ∃ V, V = (w.alloc (.deferred (some []))).alloc (.loop (rc .ready)) := ⟨_, rfl⟩
  have hsz : (w.alloc (.deferred (some []))).heap.size = w.heap.size + 1 := by simp
  have b1 : Below w.heap.size w V := by rw [hV]; exact ((Below.refl _ w).alloc (Nat.le_refl _) _).alloc (by simp) _
  have vl : V.heap[w.heap.size + 1]? = some (.loop (rc .ready)) := by
    rw [hV, ← hsz]; exact World.alloc_heap_new _ _
  have vd : V.heap[w.heap.size]? = some (.deferred (some [])) := by
    rw [hV]; exact (Below.heap_alloc _ _ _ (by simp)).trans (World.alloc_heap_new w _)
  have nc0 : NC w (w.heap.size + 1) := fun c t z e => by
    have := (Array.getElem?_eq_some_iff.1 e).1
    omega
  have ncl : ∀ (A : World) (st : Loop), A.heap[w.heap.size + 1]? = some (.loop st) → NC A (w.heap.size + 1) := fun A st e c t z e2 => by
    rw [e] at e2; cases e2
  refine ⟨w.heap.size + 1, [{ target := .collected w.heap.size, args := #[] }], V, { target := .fn (.func gf) lb, args := #[.func (.yield (w.heap.size + 1)) #[] #[]] }, V, gf,
    #[.func (.yield (w.heap.size + 1)) #[] #[]] ++ lb, V, ?_, ?_, fun _ _ => trivial, ?_, fun _ => h1, ?_⟩
  · rw [hV, hrc]; exact run_enterLoop_outer _ _ _ _ _
  · simp only [resolve, hg]
    simp [go_sem]
  · simp [invoke, go_sem, eg]
  refine (hseq (w.heap.size + 1) (fun s A => I s A ∧ A.heap[w.heap.size + 1]? = some (.loop (rc .ready)) ∧ A.heap[w.heap.size]? = some (.deferred (some []))) V b1 ?_ ?_ ⟨hI _ _ _ h0 nc0 (Fr.of_below b1 _), vl, vd⟩).mono ?_
  · rintro s A B ⟨i, la, da⟩ hb
    exact ⟨hI _ _ _ i (ncl A _ la) (Fr.of_below hb _), (hb.block _ (Array.getElem?_eq_some_iff.1 la).1).trans la, (hb.block _ (Array.getElem?_eq_some_iff.1 da).1).trans da⟩
  · rintro pre x A ⟨i, la, da⟩ hx hG
    have hla : w.heap.size + 1 < A.heap.size := (Array.getElem?_eq_some_iff.1 la).1
    have hy := run_yield (P := P) (args := #[enc x]) la (by rw [hrc]; simp [hps])
    rw [hrc] at hy
    refine ⟨fn, _, assign, body, hy, roundIn_of_wpIn hfn (wpIn_mono (hround (w.heap.size + 1) pre x A i hx hG hla (ncl A _ la)) ?_)⟩
    rintro e a1 W1 hp
    cases e with
    | normal =>
      obtain ⟨k1, hb⟩ := hp
      have l1 := k1.same _ _ la rfl
      have d1 := k1.same _ _ da rfl
      refine ⟨_, run_beginRound l1 (by rw [hrc]), ?_⟩
      obtain ⟨W2, hW2⟩ : ∃ W2, W2 = W1.putObj (w.heap.size + 1) (.loop { rc .ready with state := .busy }) := ⟨_, rfl⟩
      have hl1 : w.heap.size + 1 < W1.heap.size := (Array.getElem?_eq_some_iff.1 l1).1
      have l2 : W2.heap[w.heap.size + 1]? = some (.loop { rc .ready with state := .busy }) := by rw [hW2]; exact World.putObj_heap_same hl1
      have d2 : W2.heap[w.heap.size]? = some (.deferred (some [])) := by rw [hW2]; exact (World.putObj_heap_other (by omega)).trans d1
      rw [← hW2]
      refine wpIn_mono (hb W2 (by rw [hW2]; exact fr_putObj _ _ _) (ncl W1 _ l1) (ncl W2 _ l2)) ?_
      rintro e3 a3 W3 hq
      cases e3 with
      | normal =>
        obtain ⟨k3, f3, i3⟩ := hq
        have l3 := k3.same _ _ l2 rfl
        have d3 := k3.same _ _ d2 rfl
        have hr := run_endRound (P := P) none l3
        have hl3 : w.heap.size + 1 < W3.heap.size := (Array.getElem?_eq_some_iff.1 l3).1
        have fp := fr_putObj W3 (w.heap.size + 1) (.loop { rc .ready with state := .ready })
        refine ⟨_, _, hr, rfl, ⟨hI _ _ _ i3 (ncl W3 _ l3) (fr_putObj _ _ _), ?_, (World.putObj_heap_other (by omega)).trans d3⟩, f3.on ((fr_putObj _ _ _).mono (fun q _ e => .inr (by omega)))⟩
        rw [World.putObj_heap_same hl3, hrc]
        rfl
      | ret => exact hq.elim
      | exit id => exact hq.elim
      | goto t => exact hq.elim
      | panic ch => exact hq.elim
      | outgrown => exact hq.elim
    | ret => exact hp.elim
    | exit id => exact hp.elim
    | goto t => exact hp.elim
    | panic ch => exact hp.elim
    | outgrown => exact hp.elim
  · rintro e W2 ⟨⟨v, rfl⟩, xs, hS, i, l2, d2⟩
    have hr := run_endLoop (P := P) l2 (by rw [hrc]; simp)
    refine ⟨none, _, by rw [hr, hrc], hdone xs _ hS (hI _ _ _ i (ncl W2 _ l2) (fr_putObj _ _ _)) ((World.putObj_heap_other (by omega)).trans d2)⟩
end Go.Proofs.Ytlcgicgdlhnfoaa
