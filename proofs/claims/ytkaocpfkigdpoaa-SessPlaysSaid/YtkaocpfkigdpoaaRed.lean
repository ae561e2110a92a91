/-
  Read: the program's.
-/
import Derived.Test.YtkaocpfkigdpoaaRdp
import Derived.Test.YtkaocpfkigdpoaaOps
namespace Go.Proofs.Ytkaocpfkigdpoaa
open Go.RowKit
theorem num_any {w : World} {b : Nat} {t : Tp} (h : Bt.TapeAt w b t.1 t.2) (hs : t.1.size ≤ 281474976710656) :
    Calls Try.prog 32 #[.pointer (some ⟨b, 0, none⟩)] w fun r w' => r = .returned (.int .u64 ((pn t).1 : Int)) ∧ w.grownBy w' (some b) ∧ Bt.TapeAt w' b (pn t).2.1 (pn t).2.2 := Bt.tapeNum_any h hs
theorem row_ne_tape {w : World} {B b : Nat} {v : Value} {L : List Sn} {s : ByteArray} {e : Int} (h : Own w B v L) (k : Bt.TapeAt w b s e) : v.ownBlock ≠ some b := by
  intro e'
  rcases h.2 with ⟨rfl, _⟩ | ⟨g, cap, cur, rfl, _, hg, _⟩
  · cases e'
  · have : g = b := by simpa [Value.ownBlock] using e'
    subst this
    rw [show w.heap[g]? = _ from k] at hg
    simp at hg
theorem Bt.TapeAt.next' {w w' : World} {b : Nat} {s : ByteArray} {e : Int} {P : Nat → Prop} (h : Bt.TapeAt w b s e) (f : Fr w w' P) (hP : ¬ P b) : Bt.TapeAt w' b s e := (f.block b h.lt hP).trans h
/-- a tape and a table side by side, behind B -/
structure Rs (w0 w : World) (b T : Nat) (t : Tp) (L : List Sn) : Prop where
  tape : Bt.TapeAt w b t.1 t.2
  tab : ∃ v, Tab w T v L
  ne : b ≠ T
  hb : w0.heap.size ≤ b
  hT : w0.heap.size ≤ T
  bel : Below w0.heap.size w0 w
theorem Rs.num {w0 w : World} {b T : Nat} {t : Tp} {L : List Sn} (h : Rs w0 w b T t L) (hs : t.1.size ≤ 281474976710656) :
    Calls Try.prog 32 #[.pointer (some ⟨b, 0, none⟩)] w fun r w' => r = .returned (.int .u64 ((pn t).1 : Int)) ∧ Rs w0 w' b T (pn t).2 L := by
  refine (num_any h.tape hs).mono ?_
  rintro r w' ⟨rfl, g, k⟩
  have f := (Fr.of_grown g).mono (Q := fun q => q = b) (fun q _ e => by injection e)
  obtain ⟨v, T'⟩ := h.tab
  exact ⟨rfl, k, ⟨v, T'.fr f (fun e => h.ne e.symm) (fun q hq e => row_ne_tape T'.own h.tape (by rw [hq, e]))⟩, h.ne, h.hb, h.hT, h.bel.trans (f.below (fun q e => by have := h.hb; omega) h.bel.size)⟩
theorem Rs.next {w0 w w' : World} {b T : Nat} {t : Tp} {L : List Sn} (h : Rs w0 w b T t L) (hb : Below w.heap.size w w') : Rs w0 w' b T t L := by
  obtain ⟨v, T'⟩ := h.tab
  exact ⟨h.tape.next hb, ⟨v, T'.next hb⟩, h.ne, h.hb, h.hT, h.bel.trans (hb.mono h.bel.size)⟩
/-- one session is put behind -/
theorem Rs.push {w0 w w1 : World} {b T : Nat} {t : Tp} {L : List Sn} {v v' : Value} {x : Sn} (h : Rs w0 w b T t L) (hv : Tab w T v L) (ho : w1.ownsRow (T + 1) 62 2 v' (L.length + 1) (cells L ++ enc x)) (hg : w.grownBy w1 v.ownBlock) :
    Rs w0 (w1.setCell ⟨T, 0, none⟩ v') b T t (L ++ [x]) := by
  have f1 : Fr w w1 (fun q => v.ownBlock = some q) := (Fr.of_grown hg).mono (fun q _ e => e.symm)
  have nT : ¬ (v.ownBlock = some T) := fun e => by have := own_ne hv.own T e; omega
  have k1 : Blk w1 T 54 #[v] := hv.blk.fr f1 nT
  have O1 : Own w1 (T + 1) v' (L ++ [x]) := by
    unfold Own
    rw [List.length_append, cells_append, show cells [x] = enc x from by unfold cells; simp]
    exact ho
  have f2 := fr_set w1 T 0 v'
  have bT : w0.heap.size ≤ w.heap.size := h.bel.size
  refine ⟨(h.tape.next' f1 (row_ne_tape hv.own h.tape)).next' f2 h.ne, ⟨v', k1.set 0 v', O1.fr f2 (fun q hq e => by have := own_ne O1 q hq; omega)⟩, h.ne, h.hb, h.hT, ?_⟩
  refine h.bel.trans ((f1.below (B := w0.heap.size) (fun q hq => ?_) bT).trans (f2.below (fun q hq => by have := h.hT; omega) (Nat.le_trans bT f1.size)))
  have := own_ne hv.own q hq
  have := h.hT
  omega
end Go.Proofs.Ytkaocpfkigdpoaa
