/-
  A TRACK AS THE DOCUMENT HAS IT: runs appended one by one.
-/
import Derived.Test.YtifdljdnpdefgaaTrk
import Derived.Deep.AppendLies
import Derived.Deep.RegionLaw
import Derived.Laws.OwnMore
import Derived.Deep.DeepCutAuto
import Derived.Deep.CutBlock
namespace Go.Proofs.Ytifdljdnpdefgaa
open Go.RowKit
/-- a run with where its picks lie -/
structure RC where
  r : Rn
  q : Option Addr
  c : Nat
def encR (x : RC) : List Value := [.int .i64 x.r.b, .int .i64 x.r.t, .int .i64 x.r.s, .int .u64 x.r.n, .slice x.q x.r.P.length x.c]
def cellsR (l : List RC) : List Value := l.flatMap encR
theorem cellsR_one (l : List RC) (x : RC) : cellsR (l ++ [x]) = cellsR l ++ encR x := by unfold cellsR; rw [List.flatMap_append]; simp
theorem cellsR_get : ∀ {l : List RC} {k : Nat} (h : k < l.length) (j : Nat), j < 5 → (cellsR l)[k * 5 + j]? = (encR l[k])[j]?
  | x :: l, 0, _, j, hj => by
    show (encR x ++ cellsR l)[0 * 5 + j]? = _
    rw [Nat.zero_mul, Nat.zero_add, List.getElem?_append_left (show j < (encR x).length from hj)]; rfl
  | x :: l, k + 1, h, j, hj => by
    have ih := cellsR_get (l := l) (k := k) (by simpa using h) j hj
    show (encR x ++ cellsR l)[(k + 1) * 5 + j]? = _
    have e : (encR x).length = 5 := rfl
    rw [List.getElem?_append_right (by omega), e, show (k + 1) * 5 + j - 5 = k * 5 + j by omega]
    exact ih
def RCs (w : World) (a : Option Addr) (M : List RC) : Prop := ∀ p (h : p < M.length), ∃ g o, a = some ⟨g, o, none⟩ ∧ g < w.heap.size ∧
  w.cell? ⟨g, o + p * 5, none⟩ = some (.int .i64 M[p].r.b) ∧ w.cell? ⟨g, o + p * 5 + 1, none⟩ = some (.int .i64 M[p].r.t) ∧ w.cell? ⟨g, o + p * 5 + 2, none⟩ = some (.int .i64 M[p].r.s) ∧ w.cell? ⟨g, o + p * 5 + 3, none⟩ = some (.int .u64 M[p].r.n) ∧ w.cell? ⟨g, o + p * 5 + 4, none⟩ = some (.slice M[p].q M[p].r.P.length M[p].c)
/-- the picks that runs have lie where they say -/
def Pks (w : World) (M : List RC) : Prop := ∀ x ∈ M, Ints w x.q x.r.P ∧ x.r.P.length ≤ x.c
theorem Pks.below {w w' : World} {M : List RC} (h : Pks w M) (hb : Below w.heap.size w w') : Pks w' M := fun x hx => ⟨(h x hx).1.below hb, (h x hx).2⟩
theorem rcs_of {w : World} {a : Option Addr} {L : List Rn} (h : Rns w a L) : ∃ M : List RC, M.map RC.r = L ∧ RCs w a M ∧ Pks w M := by
  have h2 : ∀ p : Fin L.length, ∃ x : Option Addr × Nat, ∃ g o, a = some ⟨g, o, none⟩ ∧ g < w.heap.size ∧
      w.cell? ⟨g, o + p.1 * 5, none⟩ = some (.int .i64 L[p.1].b) ∧ w.cell? ⟨g, o + p.1 * 5 + 1, none⟩ = some (.int .i64 L[p.1].t) ∧ w.cell? ⟨g, o + p.1 * 5 + 2, none⟩ = some (.int .i64 L[p.1].s) ∧ w.cell? ⟨g, o + p.1 * 5 + 3, none⟩ = some (.int .u64 L[p.1].n) ∧ w.cell? ⟨g, o + p.1 * 5 + 4, none⟩ = some (.slice x.1 L[p.1].P.length x.2) ∧ Ints w x.1 L[p.1].P ∧ L[p.1].P.length ≤ x.2 := fun p => by
    obtain ⟨g, o, q, c, e, hg, c0, c1, c2, c3, c4, hi, hc⟩ := h p.1 p.2
    exact ⟨(q, c), g, o, e, hg, c0, c1, c2, c3, c4, hi, hc⟩
  obtain ⟨f, hf⟩ := Classical.axiomOfChoice h2
  refine ⟨List.ofFn fun p : Fin L.length => ⟨L[p.1], (f p).1, (f p).2⟩, ?_, ?_, ?_⟩
  · apply List.ext_getElem (by simp)
    intro i h1 h2
    simp
  · intro p hp
    have hp' : p < L.length := by simpa using hp
    obtain ⟨g, o, e, hg, c0, c1, c2, c3, c4, hi, hc⟩ := hf ⟨p, hp'⟩
    refine ⟨g, o, e, hg, ?_⟩
    simp only [List.getElem_ofFn]
    exact ⟨c0, c1, c2, c3, c4⟩
  · intro x hx
    obtain ⟨p, rfl⟩ := List.mem_ofFn.1 hx
    obtain ⟨g, o, e, hg, c0, c1, c2, c3, c4, hi, hc⟩ := hf p
    exact ⟨hi, hc⟩
theorem rns_of {w : World} {a : Option Addr} {M : List RC} (h : RCs w a M) (hp : Pks w M) : Rns w a (M.map RC.r) := fun p hq => by
  have hq' : p < M.length := by simpa using hq
  obtain ⟨g, o, e, hg, c0, c1, c2, c3, c4⟩ := h p hq'
  have := hp M[p] (List.getElem_mem hq')
  refine ⟨g, o, M[p].q, M[p].c, e, hg, ?_⟩
  rw [List.getElem_map]
  exact ⟨c0, c1, c2, c3, c4, this.1, this.2⟩
theorem rcs_own {w : World} {B t g cap n : Nat} {l : List RC} (hn : n = l.length) (h : w.ownsRow B t 5 (.slice (some ⟨g, 0, none⟩) n cap) n (cellsR l)) : RCs w (some ⟨g, 0, none⟩) l := fun p hp => by
  have hg : g < w.heap.size := (World.ownsRow.lt h g rfl).2
  subst hn
  refine ⟨g, 0, rfl, hg, ?_, ?_, ?_, ?_, ?_⟩
  · have := cellsR_get hp 0 (by decide); rw [Nat.zero_add, World.ownsRow.cellAt h _ (by omega)]; simpa [encR] using this
  · have := cellsR_get hp 1 (by decide); rw [Nat.zero_add, World.ownsRow.cellAt h _ (by omega)]; simpa [encR] using this
  · have := cellsR_get hp 2 (by decide); rw [Nat.zero_add, World.ownsRow.cellAt h _ (by omega)]; simpa [encR] using this
  · have := cellsR_get hp 3 (by decide); rw [Nat.zero_add, World.ownsRow.cellAt h _ (by omega)]; simpa [encR] using this
  · have := cellsR_get hp 4 (by decide); rw [Nat.zero_add, World.ownsRow.cellAt h _ (by omega)]; simpa [encR] using this
theorem info51 : (Try.prog.info? 51).map (fun i => (i.zero, i.size, i.bytes)) = some (some (.agg #[.int .i64 0, .int .i64 0, .int .i64 0, .int .u64 0, .slice none 0 0]), 5, 56) := by kernel_rfl
theorem rc_form {w : World} {B : Nat} {v : Value} {n : Nat} {xs : List Value} (h : w.ownsRow B 51 5 v n xs) : ∃ a c, v = .slice a n c := by
  rcases h.2 with ⟨rfl, e⟩ | ⟨g, cap, cur, rfl, _⟩
  · exact ⟨none, 0, by rw [e]⟩
  · exact ⟨_, _, rfl⟩
/-- what the law's Track answers -/
def Cnvd (w : World) (c t l : Int) (L : List Rn) (e : Ending) (w' : World) : Prop := ∃ p cp, e = .returned (trackV c t l (.slice p (List.length L) cp)) ∧ Rns w' p L ∧ Below w.heap.size w w'
/-- the round of Track's loop -/
structure CnI (w wq : World) (Y B : Nat) (a b c : Int) (pv : Value) (L : List RC) (j : Nat) (u : Value) : Prop where
  e : Blk wq Y 24 #[.int .i64 a, .int .i64 b, .int .i64 c, pv]
  z : Blk wq (Y + 1) 34 #[.int .i64 0, .int .i64 0, .int .i64 0, .slice none 0 0]
  x : Blk wq (Y + 1 + 1) 34 #[.int .i64 a, .int .i64 b, .int .i64 c, u]
  o : wq.ownsRow B 51 5 u j (cellsR (L.take j))
  b : Below Y w wq
theorem CnI.push {w wq W0 w4 : World} {Y B : Nat} {a b c : Int} {pv : Value} {L : List RC} {j g cap : Nat} {u : Value} (h : CnI w wq Y B a b c pv L j u) (hB : Y + 1 + 1 < B) (hj : j < L.length) (hW : Below wq.heap.size wq W0)
    (ho : w4.ownsRow B 51 5 (.slice (some ⟨g, 0, none⟩) (j + 1) cap) (j + 1) (cellsR (L.take j) ++ encR L[j])) (hg : W0.grownBy w4 u.ownBlock) :
    CnI w (w4.setCell ⟨Y + 1 + 1, 3, none⟩ (.slice (some ⟨g, 0, none⟩) (j + 1) cap)) Y B a b c pv L (j + 1) (.slice (some ⟨g, 0, none⟩) (j + 1) cap) ∧ w4.frozen? ⟨Y + 1 + 1, 3, none⟩ = false ∧ w4.cell? ⟨Y + 1 + 1, 3, none⟩ = some u := by
  have hu : ∀ q, u.ownBlock = some q → B ≤ q := fun q hq => (World.ownsRow.lt h.o q hq).1
  have kp : ∀ {q : Nat} {t : TypeId} {cs : Array Value}, q < B → Blk wq q t cs → Blk w4 q t cs := fun hq hb => by
    have h0 := hb.below hW hb.lt
    exact (hg.block _ h0.lt (fun e => by have := hu _ e.symm; omega)).trans h0
  have hx := kp (by omega) h.x
  have hgB : B ≤ g := (World.ownsRow.lt ho g rfl).1
  have ne : ∀ {q : Nat} {t : TypeId} {cs : Array Value}, q ≠ Y + 1 + 1 → Blk w4 q t cs → Blk (w4.setCell ⟨Y + 1 + 1, 3, none⟩ (.slice (some ⟨g, 0, none⟩) (j + 1) cap)) q t cs := fun hq hb => (Below.heap_setCell _ _ _ _ hq).trans hb
  refine ⟨⟨ne (by omega) (kp (by omega) h.e), ne (by omega) (kp (by omega) h.z), ?_, ?_, ?_⟩, hx.free 3, by rw [hx.cell]; rfl⟩
  · have := heap_setCell_same w4 (Y + 1 + 1) 3 #[.int .i64 a, .int .i64 b, .int .i64 c, u] 34 (.slice (some ⟨g, 0, none⟩) (j + 1) cap) hx
    exact this
  · have e : L.take (j + 1) = L.take j ++ [L[j]] := by rw [List.take_succ_eq_append_getElem hj]
    rw [e, cellsR_one]
    exact ownsRow_setCell_other ho (by simp [Value.ownBlock]; omega) _
  · have b1 : Below Y w W0 := h.b.trans (hW.mono (Nat.le_of_lt h.e.lt))
    have b2 : Below Y w w4 := b1.trans ⟨hg.os, hg.tape, hg.output, hg.size, fun q hq => hg.block q (Nat.lt_of_lt_of_le (Nat.lt_trans hq h.e.lt) hW.size) (fun e => by have := hu q e.symm; omega)⟩
    exact b2.setCell (p := ⟨Y + 1 + 1, 3, none⟩) (by show Y ≤ Y + 1 + 1; omega) _
/-- what lies in the answer's block at the end -/
theorem cn_end {w wr : World} {Y : Nat} {a b c : Int} {pv : Value} {L : List RC} {ua : Option Addr} {uc j : Nat} (h : CnI w wr Y (Y + 3) a b c pv L j (.slice ua j uc)) (hj : j = L.length) :
    ∃ W5, W5 = (((wr.setCell ⟨Y + 1, 0, none⟩ (.int .i64 a)).setCell ⟨Y + 1, 1, none⟩ (.int .i64 b)).setCell ⟨Y + 1, 2, none⟩ (.int .i64 c)).setCell ⟨Y + 1, 3, none⟩ (.slice ua j uc) ∧ Blk W5 (Y + 1) 34 #[.int .i64 a, .int .i64 b, .int .i64 c, .slice ua j uc] ∧ Below Y w W5 ∧ RCs W5 ua L := by
  have st : ∀ {W : World} {cs : Array Value} (i : Nat) (v : Value), Blk W (Y + 1) 34 cs → Blk (W.setCell ⟨Y + 1, i, none⟩ v) (Y + 1) 34 (cs.setIfInBounds i v) := fun i v hb => heap_setCell_same _ _ i _ 34 v hb
  have so : ∀ {W : World} (i : Nat) (v : Value), W.ownsRow (Y + 3) 51 5 (.slice ua j uc) j (cellsR (L.take j)) → (W.setCell ⟨Y + 1, i, none⟩ v).ownsRow (Y + 3) 51 5 (.slice ua j uc) j (cellsR (L.take j)) := fun i v ho => ownsRow_setCell_other ho (fun e => by have := (World.ownsRow.lt ho (Y + 1) (by first | exact e | exact e.symm)).1; omega) _
  have sb : ∀ {W : World} (i : Nat) (v : Value), Below Y w W → Below Y w (W.setCell ⟨Y + 1, i, none⟩ v) := fun i v hb => hb.setCell (p := ⟨Y + 1, i, none⟩) (by show Y ≤ Y + 1; omega) _
  have ho := so 3 (.slice ua j uc) (so 2 (.int .i64 c) (so 1 (.int .i64 b) (so 0 (.int .i64 a) h.o)))
  refine ⟨_, rfl, st 3 _ (st 2 _ (st 1 _ (st 0 _ h.z))), sb 3 _ (sb 2 _ (sb 1 _ (sb 0 _ h.b))), ?_⟩
  rw [hj, List.take_of_length_le (Nat.le_refl _), ← hj] at ho
  rcases ho.2 with ⟨e, e0⟩ | ⟨g, cap, cur, e, _⟩
  · intro p hp; omega
  · cases e
    exact rcs_own hj ho
end Go.Proofs.Ytifdljdnpdefgaa
