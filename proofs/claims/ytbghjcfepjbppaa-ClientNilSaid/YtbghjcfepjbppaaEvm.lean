/-
  FIELDS IN MEMORY; AN EVENT AS THE DOCUMENT HAS IT: Ref.
-/
import Derived.Test.YtbghjcfepjbppaaHlaw
import Derived.Deep.AppendLies
import Derived.Deep.RegionLaw
import Derived.Laws.OwnMore
namespace Go.Proofs.Ytbghjcfepjbppaa
open Go.RowKit
structure Fld where
  nm : ByteArray
  v : Val
def encF (x : Fld) : List Value := [.string x.nm, .int .i64 x.v.k, .int .i64 x.v.n, .float .f64 x.v.f, .string x.v.s]
def cellsF (l : List Fld) : List Value := l.flatMap encF
theorem cellsF_one (l : List Fld) (x : Fld) : cellsF (l ++ [x]) = cellsF l ++ encF x := by unfold cellsF; rw [List.flatMap_append]; simp
theorem cellsF_get : ∀ {l : List Fld} {k : Nat} (h : k < l.length) (j : Nat), j < 5 → (cellsF l)[k * 5 + j]? = (encF l[k])[j]?
  | x :: l, 0, _, j, hj => by
    show (encF x ++ cellsF l)[0 * 5 + j]? = _
    rw [Nat.zero_mul, Nat.zero_add, List.getElem?_append_left (show j < (encF x).length from hj)]; rfl
  | x :: l, k + 1, h, j, hj => by
    have ih := cellsF_get (l := l) (k := k) (by simpa using h) j hj
    show (encF x ++ cellsF l)[(k + 1) * 5 + j]? = _
    have e : (encF x).length = 5 := rfl
    rw [List.getElem?_append_right (by omega), e, show (k + 1) * 5 + j - 5 = k * 5 + j by omega]
    exact ih
/-- fields in memory -/
def Flds (w : World) (a : Option Addr) (L : List Fld) : Prop := ∀ p (h : p < L.length), ∃ g o, a = some ⟨g, o, none⟩ ∧ g < w.heap.size ∧
  w.cell? ⟨g, o + p * 5, none⟩ = some (.string L[p].nm) ∧ w.cell? ⟨g, o + p * 5 + 1, none⟩ = some (.int .i64 L[p].v.k) ∧ w.cell? ⟨g, o + p * 5 + 2, none⟩ = some (.int .i64 L[p].v.n) ∧ w.cell? ⟨g, o + p * 5 + 3, none⟩ = some (.float .f64 L[p].v.f) ∧ w.cell? ⟨g, o + p * 5 + 4, none⟩ = some (.string L[p].v.s)
theorem Flds.below {w w' : World} {a : Option Addr} {L : List Fld} (h : Flds w a L) (hb : Below w.heap.size w w') : Flds w' a L := fun p hp => by
  obtain ⟨g, o, e, hl, c0, c1, c2, c3, c4⟩ := h p hp
  have q : ∀ {i : Nat} {v : Value}, w.cell? ⟨g, i, none⟩ = some v → w'.cell? ⟨g, i, none⟩ = some v := fun hc => by rw [hb.cell (p := ⟨g, _, none⟩) hl]; exact hc
  exact ⟨g, o, e, Nat.lt_of_lt_of_le hl hb.size, q c0, q c1, q c2, q c3, q c4⟩
theorem flds_own {w : World} {B t g cap n : Nat} {l : List Fld} (hn : n = l.length) (h : w.ownsRow B t 5 (.slice (some ⟨g, 0, none⟩) n cap) n (cellsF l)) : Flds w (some ⟨g, 0, none⟩) l := fun p hp => by
  have hg : g < w.heap.size := (World.ownsRow.lt h g rfl).2
  subst hn
  refine ⟨g, 0, rfl, hg, ?_, ?_, ?_, ?_, ?_⟩
  · have := cellsF_get hp 0 (by decide); rw [Nat.zero_add, World.ownsRow.cellAt h _ (by omega)]; simpa [encF] using this
  · have := cellsF_get hp 1 (by decide); rw [Nat.zero_add, World.ownsRow.cellAt h _ (by omega)]; simpa [encF] using this
  · have := cellsF_get hp 2 (by decide); rw [Nat.zero_add, World.ownsRow.cellAt h _ (by omega)]; simpa [encF] using this
  · have := cellsF_get hp 3 (by decide); rw [Nat.zero_add, World.ownsRow.cellAt h _ (by omega)]; simpa [encF] using this
  · have := cellsF_get hp 4 (by decide); rw [Nat.zero_add, World.ownsRow.cellAt h _ (by omega)]; simpa [encF] using this
theorem info62 : (Try.prog.info? 108).map (fun i => (i.zero, i.size, i.bytes)) = some (some (.agg #[.string ⟨#[]⟩, .int .i64 0, .int .i64 0, .float .f64 0, .string ⟨#[]⟩]), 5, 56) := by kernel_rfl
theorem fld_form {w : World} {B : Nat} {v : Value} {n : Nat} {xs : List Value} (h : w.ownsRow B 108 5 v n xs) : ∃ a c, v = .slice a n c := by
  rcases h.2 with ⟨rfl, e⟩ | ⟨g, cap, cur, rfl, _⟩
  · exact ⟨none, 0, by rw [e]⟩
  · exact ⟨_, _, rfl⟩
/-- a block that is known whole -/
def Blk (w : World) (g : Nat) (t : TypeId) (cs : Array Value) : Prop := w.heap[g]? = some (.cells cs t (0, 0))
theorem Blk.lt {w : World} {g : Nat} {t : TypeId} {cs : Array Value} (h : Blk w g t cs) : g < w.heap.size := (Array.getElem?_eq_some_iff.1 h).1
theorem Blk.cell {w : World} {g : Nat} {t : TypeId} {cs : Array Value} (h : Blk w g t cs) (i : Nat) : w.cell? ⟨g, i, none⟩ = cs[i]? := cell_of_row w g i cs t (0, 0) h
theorem Blk.free {w : World} {g : Nat} {t : TypeId} {cs : Array Value} (h : Blk w g t cs) (i : Nat) : w.frozen? ⟨g, i, none⟩ = false := by unfold Blk at h; simp [World.frozen?, h]
theorem Blk.below {w w' : World} {g : Nat} {t : TypeId} {cs : Array Value} (h : Blk w g t cs) (hb : Below w.heap.size w w') : Blk w' g t cs := (hb.block g h.lt).trans h
def evV (a b c : Int) (k : ByteArray) (s : Value) : Value := .agg #[.int .i64 a, .int .i64 b, .int .i64 c, .string k, s]
/-- what Ref answers -/
def Refd (w : World) (a b c : Int) (k : ByteArray) (L : List Fld) (e : Ending) (w' : World) : Prop := ∃ p cp, e = .returned (evV a b c k (.slice p (List.length L) cp)) ∧ Flds w' p L ∧ Below w.heap.size w w'
/-- the round of Ref's loop -/
structure RefI (w wq : World) (Y B : Nat) (a b c : Int) (k : ByteArray) (pv : Value) (L : List Fld) (j : Nat) (u : Value) : Prop where
  e : Blk wq Y 31 #[.int .i64 a, .int .i64 b, .int .i64 c, .string k, pv]
  z : Blk wq (Y + 1) 42 #[.int .i64 0, .int .i64 0, .int .i64 0, .string ⟨#[]⟩, .slice none 0 0]
  x : Blk wq (Y + 1 + 1) 42 #[.int .i64 a, .int .i64 b, .int .i64 c, .string k, u]
  o : wq.ownsRow B 108 5 u j (cellsF (L.take j))
  b : Below Y w wq
theorem RefI.push {w wq W0 w4 : World} {Y B : Nat} {a b c : Int} {k : ByteArray} {pv : Value} {L : List Fld} {j g cap : Nat} {u : Value} (h : RefI w wq Y B a b c k pv L j u) (hB : Y + 1 + 1 < B) (hj : j < L.length) (hW : Below wq.heap.size wq W0)
    (ho : w4.ownsRow B 108 5 (.slice (some ⟨g, 0, none⟩) (j + 1) cap) (j + 1) (cellsF (L.take j) ++ encF L[j])) (hg : W0.grownBy w4 u.ownBlock) :
    RefI w (w4.setCell ⟨Y + 1 + 1, 4, none⟩ (.slice (some ⟨g, 0, none⟩) (j + 1) cap)) Y B a b c k pv L (j + 1) (.slice (some ⟨g, 0, none⟩) (j + 1) cap) ∧ w4.frozen? ⟨Y + 1 + 1, 4, none⟩ = false ∧ w4.cell? ⟨Y + 1 + 1, 4, none⟩ = some u := by
  have hu : ∀ q, u.ownBlock = some q → B ≤ q := fun q hq => (World.ownsRow.lt h.o q hq).1
  have kp : ∀ {q : Nat} {t : TypeId} {cs : Array Value}, q < B → Blk wq q t cs → Blk w4 q t cs := fun hq hb => by
    have h0 := hb.below hW
    exact (hg.block _ h0.lt (fun e => by have := hu _ e.symm; omega)).trans h0
  have hx := kp (by omega) h.x
  have hgB : B ≤ g := (World.ownsRow.lt ho g rfl).1
  have ne : ∀ {q : Nat} {t : TypeId} {cs : Array Value}, q ≠ Y + 1 + 1 → Blk w4 q t cs → Blk (w4.setCell ⟨Y + 1 + 1, 4, none⟩ (.slice (some ⟨g, 0, none⟩) (j + 1) cap)) q t cs := fun hq hb => (Below.heap_setCell _ _ _ _ hq).trans hb
  refine ⟨⟨ne (by omega) (kp (by omega) h.e), ne (by omega) (kp (by omega) h.z), ?_, ?_, ?_⟩, hx.free 4, by rw [hx.cell]; rfl⟩
  · have := heap_setCell_same w4 (Y + 1 + 1) 4 #[.int .i64 a, .int .i64 b, .int .i64 c, .string k, u] 42 (.slice (some ⟨g, 0, none⟩) (j + 1) cap) hx
    exact this
  · have e : L.take (j + 1) = L.take j ++ [L[j]] := by rw [List.take_succ_eq_append_getElem hj]
    rw [e, cellsF_one]
    exact ownsRow_setCell_other ho (by simp [Value.ownBlock]; omega) _
  · have b1 : Below Y w W0 := h.b.trans (hW.mono (Nat.le_of_lt h.e.lt))
    have b2 : Below Y w w4 := b1.trans ⟨hg.os, hg.tape, hg.output, hg.size, fun q hq => hg.block q (Nat.lt_of_lt_of_le (Nat.lt_trans hq h.e.lt) hW.size) (fun e => by have := hu q e.symm; omega)⟩
    exact b2.setCell (p := ⟨Y + 1 + 1, 4, none⟩) (by show Y ≤ Y + 1 + 1; omega) _
theorem RefI.drew {w wq : World} {Y B : Nat} {a b c : Int} {k : ByteArray} {pv : Value} {L : List Fld} {j : Nat} {u : Value} (h : RefI w wq Y B a b c k pv L j u) : RefI w wq.drew Y B a b c k pv L j u :=
  ⟨h.e, h.z, h.x, World.ownsRow.kept h.o (row := none) ⟨rfl, rfl, rfl, Nat.le_refl _, fun _ _ _ => rfl⟩ (by cases u.ownBlock <;> simp), h.b.drew⟩
/-- what lies in the answer's block at the end -/
theorem ref_end {w wr : World} {Y : Nat} {a b c : Int} {k : ByteArray} {pv : Value} {L : List Fld} {ua : Option Addr} {uc j : Nat} (h : RefI w wr Y (Y + 3) a b c k pv L j (.slice ua j uc)) (hj : j = L.length) :
    ∃ W5, W5 = ((((wr.setCell ⟨Y + 1, 0, none⟩ (.int .i64 a)).setCell ⟨Y + 1, 1, none⟩ (.int .i64 b)).setCell ⟨Y + 1, 2, none⟩ (.int .i64 c)).setCell ⟨Y + 1, 3, none⟩ (.string k)).setCell ⟨Y + 1, 4, none⟩ (.slice ua j uc) ∧ Blk W5 (Y + 1) 42 #[.int .i64 a, .int .i64 b, .int .i64 c, .string k, .slice ua j uc] ∧ Below Y w W5 ∧ Flds W5 ua L := by
  have st : ∀ {W : World} {cs : Array Value} (i : Nat) (v : Value), Blk W (Y + 1) 42 cs → Blk (W.setCell ⟨Y + 1, i, none⟩ v) (Y + 1) 42 (cs.setIfInBounds i v) := fun i v hb => heap_setCell_same _ _ i _ 42 v hb
  have so : ∀ {W : World} (i : Nat) (v : Value), W.ownsRow (Y + 3) 108 5 (.slice ua j uc) j (cellsF (L.take j)) → (W.setCell ⟨Y + 1, i, none⟩ v).ownsRow (Y + 3) 108 5 (.slice ua j uc) j (cellsF (L.take j)) := fun i v ho => ownsRow_setCell_other ho (fun e => by have := (World.ownsRow.lt ho (Y + 1) (by first | exact e | exact e.symm)).1; omega) _
  have sb : ∀ {W : World} (i : Nat) (v : Value), Below Y w W → Below Y w (W.setCell ⟨Y + 1, i, none⟩ v) := fun i v hb => hb.setCell (p := ⟨Y + 1, i, none⟩) (by show Y ≤ Y + 1; omega) _
  have ho := so 4 (.slice ua j uc) (so 3 (.string k) (so 2 (.int .i64 c) (so 1 (.int .i64 b) (so 0 (.int .i64 a) h.o))))
  refine ⟨_, rfl, st 4 _ (st 3 _ (st 2 _ (st 1 _ (st 0 _ h.z)))), sb 4 _ (sb 3 _ (sb 2 _ (sb 1 _ (sb 0 _ h.b)))), ?_⟩
  rw [hj, List.take_of_length_le (Nat.le_refl _), ← hj] at ho
  rcases ho.2 with ⟨e, e0⟩ | ⟨g, cap, cur, e, _⟩
  · intro p hp; omega
  · cases e
    exact flds_own hj ho
end Go.Proofs.Ytbghjcfepjbppaa
