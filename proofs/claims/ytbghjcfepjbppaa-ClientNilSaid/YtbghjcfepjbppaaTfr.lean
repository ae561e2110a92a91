/-
  FRAMES BY BLOCKS; what was added to a teller.
-/
import Derived.Test.YtbghjcfepjbppaaNum2
import Derived.Deep.AppendLies
import Derived.Deep.RegionLaw
import Derived.Laws.OwnMore
import Derived.Laws.NewBlocks
namespace Go.Proofs.Ytbghjcfepjbppaa
open Go.RowKit
/-- blocks off P are as they were -/
structure Fr (w w' : World) (P : Nat → Prop) : Prop where
  os : w'.os = w.os
  tape : w'.tape = w.tape
  output : w'.output = w.output
  size : w.heap.size ≤ w'.heap.size
  block : ∀ q, q < w.heap.size → ¬ P q → w'.heap[q]? = w.heap[q]?
theorem Fr.refl (w : World) (P : Nat → Prop) : Fr w w P := ⟨rfl, rfl, rfl, Nat.le_refl _, fun _ _ _ => rfl⟩
theorem Fr.trans {a b c : World} {P Q R : Nat → Prop} (h : Fr a b P) (k : Fr b c Q) (hP : ∀ q, q < a.heap.size → P q → R q) (hQ : ∀ q, q < a.heap.size → Q q → R q) : Fr a c R :=
  ⟨k.os.trans h.os, k.tape.trans h.tape, k.output.trans h.output, Nat.le_trans h.size k.size, fun q hq hR => (k.block q (Nat.lt_of_lt_of_le hq h.size) (fun hh => hR (hQ q hq hh))).trans (h.block q hq (fun hh => hR (hP q hq hh)))⟩
theorem Fr.of_grown {w w' : World} {r : Option Nat} (h : w.grownBy w' r) : Fr w w' (fun q => some q = r) := ⟨h.os, h.tape, h.output, h.size, fun q hq hne => h.block q hq hne⟩
theorem Fr.of_below {w w' : World} (h : Below w.heap.size w w') (P : Nat → Prop) : Fr w w' P := ⟨h.os, h.tape, h.output, h.size, fun q hq _ => h.block q hq⟩
theorem Fr.mono {w w' : World} {P Q : Nat → Prop} (h : Fr w w' P) (hPQ : ∀ q, q < w.heap.size → P q → Q q) : Fr w w' Q := ⟨h.os, h.tape, h.output, h.size, fun q hq hn => h.block q hq (fun hh => hn (hPQ q hq hh))⟩
theorem Fr.below {w w' : World} {B : Nat} {P : Nat → Prop} (h : Fr w w' P) (hP : ∀ q, P q → B ≤ q) (hB : B ≤ w.heap.size) : Below B w w' := ⟨h.os, h.tape, h.output, h.size, fun q hq => h.block q (Nat.lt_of_lt_of_le hq hB) (fun hh => by have := hP q hh; omega)⟩
theorem fr_set (w : World) (g i : Nat) (u : Value) : Fr w (w.setCell ⟨g, i, none⟩ u) (fun q => q = g) :=
  ⟨rfl, rfl, rfl, by simp [World.setCell], fun q _ hne => Below.heap_setCell _ _ _ _ hne⟩
theorem fr_drew (w : World) (P : Nat → Prop) : Fr w w.drew P := ⟨rfl, rfl, rfl, Nat.le_refl _, fun _ _ _ => rfl⟩
theorem Fr.on {w w' w2 : World} {P : Nat → Prop} (h : Fr w w' P) (k : Fr w' w2 P) : Fr w w2 P := h.trans k (fun _ _ h => h) (fun _ _ h => h)
theorem Fr.set {w w' : World} {P : Nat → Prop} (h : Fr w w' P) (g i : Nat) (u : Value) (hg : P g ∨ w.heap.size ≤ g) : Fr w (w'.setCell ⟨g, i, none⟩ u) P :=
  h.trans (fr_set w' g i u) (fun _ _ h => h) (fun q hq e => by subst e; rcases hg with h | h; exact h; omega)
theorem Fr.al {w w' : World} {P : Nat → Prop} (h : Fr w w' P) (o : Obj) : Fr w (w'.alloc o) P :=
  h.on (Fr.of_below ((Below.refl w'.heap.size w').alloc (Nat.le_refl _) o) P)
theorem Blk.fr {w w' : World} {g : Nat} {t : TypeId} {cs : Array Value} {P : Nat → Prop} (h : Blk w g t cs) (hf : Fr w w' P) (hP : ¬ P g) : Blk w' g t cs := (hf.block g h.lt hP).trans h
theorem Fr.own {w w' : World} {P : Nat → Prop} {B n size : Nat} {e : TypeId} {v : Value} {xs : List Value} (h : w.ownsRow B e size v n xs) (f : Fr w w' P) (hP : ∀ q, v.ownBlock = some q → ¬ P q) : w'.ownsRow B e size v n xs := by
  refine ⟨h.1, ?_⟩
  rcases h.2 with hn | ⟨g, cap, cur, rfl, hb, hgg, rest⟩
  · exact .inl hn
  · refine .inr ⟨g, cap, cur, rfl, hb, ?_, rest⟩
    rw [f.block g (Array.getElem?_eq_some_iff.1 hgg).1 (hP g rfl)]
    exact hgg

theorem Fr.cell {w w' : World} {P : Nat → Prop} (f : Fr w w' P) {g i : Nat} {u : Value} (hg : g < w.heap.size) (hP : ¬ P g) (h : w.cell? ⟨g, i, none⟩ = some u) : w'.cell? ⟨g, i, none⟩ = some u := by
  rw [← h]
  simp only [World.cell?, f.block g hg hP]
theorem Flds.fr {w w' : World} {a : Option Addr} {L : List Fld} {P : Nat → Prop} (h : Flds w a L) (f : Fr w w' P) (hP : ∀ ad, a = some ad → ¬ P ad.block) : Flds w' a L := fun p hp => by
  obtain ⟨g, o, e, hl, c0, c1, c2, c3, c4⟩ := h p hp
  have hn := hP _ e
  exact ⟨g, o, e, Nat.lt_of_lt_of_le hl f.size, f.cell hl hn c0, f.cell hl hn c1, f.cell hl hn c2, f.cell hl hn c3, f.cell hl hn c4⟩
theorem Fr.undrew {w v : World} {P : Nat → Prop} (h : Fr w.drew v P) : Fr w v P := ⟨h.os, h.tape, h.output, h.size, h.block⟩
/-- what a copy of an event leaves -/
def CopR (w : World) (a b c : Int) (k : ByteArray) (L : List Fld) (e : Ending) (w' : World) : Prop :=
  ∃ p cp, e = .returned (evV a b c k (.slice p L.length cp)) ∧ Flds w' p L ∧ (∀ ad, p = some ad → w.heap.size ≤ ad.block ∧ ad.block < w'.heap.size) ∧ Below w.heap.size w w'
theorem copR_nil (a b c : Int) (k : ByteArray) (hk : k.size ≤ 281474976710656) (w : World) : Calls Try.prog 43 #[evV a b c k (.slice none 0 0)] w (CopR w a b c k []) := by
  refine (copied_nil a b c k hk w).mono ?_
  rintro e w' ⟨rfl, b⟩
  exact ⟨none, 0, rfl, (fun i hi => by simp at hi), (fun ad h => by cases h), b⟩
def encE (a b c : Int) (k : ByteArray) (f : Value) : List Value := [.int .i64 a, .int .i64 b, .int .i64 c, .string k, f]
/-- what Add leaves -/
def AddR (w : World) (t B : Nat) (nodes to id sq : Int) (wv : Value) (n : Nat) (cs : List Value) (rv : Value) (a b c : Int) (k : ByteArray) (L : List Fld) (e : Ending) (w' : World) : Prop :=
  e = .returned (.int .i64 0) ∧ ∃ g cap p cp, Blk w' t 98 (tel nodes to id sq (.slice (some ⟨g, 0, none⟩) (n + 1) cap) rv) ∧ w'.ownsRow B 31 5 (.slice (some ⟨g, 0, none⟩) (n + 1) cap) (n + 1) (cs ++ encE a b c k (.slice p L.length cp)) ∧ Flds w' p L ∧ (∀ ad, p = some ad → w.heap.size ≤ ad.block ∧ ad.block < w'.heap.size ∧ ad.block ≠ g) ∧ Fr w w' (fun q => q = t ∨ wv.ownBlock = some q) ∧ (wv.ownBlock = some g ∨ w.heap.size ≤ g)
/-- the end of Add -/
theorem add_end {w v w4 : World} {t B : Nat} {nodes to id sq : Int} {wv : Value} {n : Nat} {cs : List Value} {rv : Value} {a b c : Int} {k : ByteArray} {L : List Fld} {p : Option Addr} {cp g cap : Nat} (o : Obj)
    (T : Blk w t 98 (tel nodes to id sq wv rv)) (hB : t < B) (hw : ∀ q, wv.ownBlock = some q → B ≤ q ∧ q < w.heap.size) (bv : Below w.heap.size w v) (hF : Flds v p L) (hp : ∀ ad, p = some ad → w.heap.size ≤ ad.block ∧ ad.block < v.heap.size)
    (ho : w4.ownsRow B 31 5 (.slice (some ⟨g, 0, none⟩) (n + 1) cap) (n + 1) (cs ++ encE a b c k (.slice p L.length cp))) (hg : (v.alloc o).grownBy w4 wv.ownBlock) (hat : wv.ownBlock = some g ∨ g = (v.alloc o).heap.size) :
    AddR w t B nodes to id sq wv n cs rv a b c k L (.returned (.int .i64 0)) (w4.setCell ⟨t, 4, none⟩ (.slice (some ⟨g, 0, none⟩) (n + 1) cap)) ∧ w4.frozen? ⟨t, 4, none⟩ = false ∧ w4.cell? ⟨t, 4, none⟩ = some wv := by
  have hlt := T.lt
  have f1 : Fr w (v.alloc o) (fun q => q = t ∨ wv.ownBlock = some q) := (Fr.of_below bv _).al o
  have f2 : Fr (v.alloc o) w4 (fun q => wv.ownBlock = some q) := (Fr.of_grown hg).mono (fun q _ h => h.symm)
  have f3 : Fr w w4 (fun q => wv.ownBlock = some q) := (((Fr.of_below bv _).al o)).on f2
  have T4 : Blk w4 t 98 (tel nodes to id sq wv rv) := T.fr f3 (fun e => by have := (hw _ e).1; omega)
  have hgB : B ≤ g := (World.ownsRow.lt ho g rfl).1
  have hvo : (v.alloc o).heap.size = v.heap.size + 1 := by simp
  have hbvs := bv.size
  refine ⟨⟨rfl, g, cap, p, cp, T4.set 4 _, ?_, ?_, ?_, ?_, hat.imp (fun e => e) (fun e => by omega)⟩, T4.free 4, by rw [T4.cell]; rfl⟩
  · exact ownsRow_setCell_other ho (by simp [Value.ownBlock]; omega) _
  · have fa : Fr v (v.alloc o) (fun q => wv.ownBlock = some q) := (Fr.refl v _).al o
    have F4 : Flds w4 p L := hF.fr (fa.on f2) (fun ad e hh => by have := (hw _ hh).2; have := (hp ad e).1; omega)
    exact F4.fr (fr_set w4 t 4 _) (fun ad e hh => by have := (hp ad e).1; omega)
  · intro ad e
    refine ⟨(hp ad e).1, ?_, by have h0 := hp ad e; rcases hat with e' | e'; (have := (hw g e').2; omega); omega⟩
    have h1 := (hp ad e).2
    have h2 := ((Fr.refl v (fun q => wv.ownBlock = some q)).al o).on f2
    have := h2.size
    have h3 : (w4.setCell ⟨t, 4, none⟩ (.slice (some ⟨g, 0, none⟩) (n + 1) cap)).heap.size = w4.heap.size := by simp
    omega
  · exact (f3.mono (fun q _ h => .inr h)).set t 4 _ (.inl (.inl rfl))
end Go.Proofs.Ytbghjcfepjbppaa
