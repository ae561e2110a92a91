/-
  FIELDS IN MEMORY; AN EVENT AS THE DOCUMENT HAS IT: Ref.
-/
import Derived.Test.YtjclcbgmpaaokabHlaw
import Derived.Deep.AppendLies
import Derived.Deep.RegionLaw
import Derived.Deep.RegionHeldLaw
import Derived.Laws.OwnMore
import Derived.StillTailTactics
namespace Go.Proofs.Ytjclcbgmpaaokab
open Go.RowKit
structure Fld where
  nm : ByteArray
  v : Val
def encF (x : Fld) : List Value := [.string x.nm, .int .i64 x.v.k, .int .i64 x.v.n, .float .f64 x.v.f, .string x.v.s]
def cellsF (l : List Fld) : List Value := l.flatMap encF
theorem cellsF_one (l : List Fld) (x : Fld) : cellsF (l ++ [x]) = cellsF l ++ encF x := by unfold cellsF; rw [List.flatMap_append]; simp
theorem cellsF_get : ∀ {l : List Fld} {k : Nat} (h : k < l.length) (j : Nat), j < 5 → (cellsF l)[k * 5 + j]? = (encF l[k])[j]?
  | x :: l, 0, _, j, hj => by
    show (encF x ++ cellsF l)[0 * 5 + j]? = _
    rw [Nat.zero_mul, Nat.zero_add, List.getElem?_append_left (show j < (encF x).length from hj)]; rfl
  | x :: l, k + 1, h, j, hj => by
    have ih := cellsF_get (l := l) (k := k) (by simpa using h) j hj
    show (encF x ++ cellsF l)[(k + 1) * 5 + j]? = _
    have e : (encF x).length = 5 := rfl
    rw [List.getElem?_append_right (by omega), e, show (k + 1) * 5 + j - 5 = k * 5 + j by omega]
    exact ih
/-- fields in memory -/
def Flds (w : World) (a : Option Addr) (L : List Fld) : Prop := ∀ p (h : p < L.length), ∃ g o, a = some ⟨g, o, none⟩ ∧ g < w.heap.size ∧
  w.cell? ⟨g, o + p * 5, none⟩ = some (.string L[p].nm) ∧ w.cell? ⟨g, o + p * 5 + 1, none⟩ = some (.int .i64 L[p].v.k) ∧ w.cell? ⟨g, o + p * 5 + 2, none⟩ = some (.int .i64 L[p].v.n) ∧ w.cell? ⟨g, o + p * 5 + 3, none⟩ = some (.float .f64 L[p].v.f) ∧ w.cell? ⟨g, o + p * 5 + 4, none⟩ = some (.string L[p].v.s)
theorem Flds.below {w w' : World} {a : Option Addr} {L : List Fld} (h : Flds w a L) (hb : Below w.heap.size w w') : Flds w' a L := fun p hp => by
  obtain ⟨g, o, e, hl, c0, c1, c2, c3, c4⟩ := h p hp
  have q : ∀ {i : Nat} {v : Value}, w.cell? ⟨g, i, none⟩ = some v → w'.cell? ⟨g, i, none⟩ = some v := fun hc => by rw [hb.cell (p := ⟨g, _, none⟩) hl]; exact hc
  exact ⟨g, o, e, Nat.lt_of_lt_of_le hl hb.size, q c0, q c1, q c2, q c3, q c4⟩
theorem flds_own {w : World} {B t g cap n : Nat} {l : List Fld} (hn : n = l.length) (h : w.ownsRow B t 5 (.slice (some ⟨g, 0, none⟩) n cap) n (cellsF l)) : Flds w (some ⟨g, 0, none⟩) l := fun p hp => by
  have hg : g < w.heap.size := (World.ownsRow.lt h g rfl).2
  subst hn
  refine ⟨g, 0, rfl, hg, ?_, ?_, ?_, ?_, ?_⟩
  · have := cellsF_get hp 0 (by decide); rw [Nat.zero_add, World.ownsRow.cellAt h _ (by omega)]; simpa [encF] using this
  · have := cellsF_get hp 1 (by decide); rw [Nat.zero_add, World.ownsRow.cellAt h _ (by omega)]; simpa [encF] using this
  · have := cellsF_get hp 2 (by decide); rw [Nat.zero_add, World.ownsRow.cellAt h _ (by omega)]; simpa [encF] using this
  · have := cellsF_get hp 3 (by decide); rw [Nat.zero_add, World.ownsRow.cellAt h _ (by omega)]; simpa [encF] using this
  · have := cellsF_get hp 4 (by decide); rw [Nat.zero_add, World.ownsRow.cellAt h _ (by omega)]; simpa [encF] using this
theorem info62 : (Try.prog.info? 62).map (fun i => (i.zero, i.size, i.bytes)) = some (some (.agg #[.string ⟨#[]⟩, .int .i64 0, .int .i64 0, .float .f64 0, .string ⟨#[]⟩]), 5, 56) := by kernel_rfl
theorem fld_form {w : World} {B : Nat} {v : Value} {n : Nat} {xs : List Value} (h : w.ownsRow B 62 5 v n xs) : ∃ a c, v = .slice a n c := by
  rcases h.2 with ⟨rfl, e⟩ | ⟨g, cap, cur, rfl, _⟩
  · exact ⟨none, 0, by rw [e]⟩
  · exact ⟨_, _, rfl⟩
/-- a block that is known whole -/
def Blk (w : World) (g : Nat) (t : TypeId) (cs : Array Value) : Prop := w.heap[g]? = some (.cells cs t (0, 0))
theorem Blk.lt {w : World} {g : Nat} {t : TypeId} {cs : Array Value} (h : Blk w g t cs) : g < w.heap.size := (Array.getElem?_eq_some_iff.1 h).1
theorem Blk.cell {w : World} {g : Nat} {t : TypeId} {cs : Array Value} (h : Blk w g t cs) (i : Nat) : w.cell? ⟨g, i, none⟩ = cs[i]? := cell_of_row w g i cs t (0, 0) h
theorem Blk.free {w : World} {g : Nat} {t : TypeId} {cs : Array Value} (h : Blk w g t cs) (i : Nat) : w.frozen? ⟨g, i, none⟩ = false := by unfold Blk at h; simp [World.frozen?, h]
theorem Blk.below {w w' : World} {g : Nat} {t : TypeId} {cs : Array Value} (h : Blk w g t cs) (hb : Below w.heap.size w w') : Blk w' g t cs := (hb.block g h.lt).trans h
def evV (a b c : Int) (k : ByteArray) (s : Value) : Value := .agg #[.int .i64 a, .int .i64 b, .int .i64 c, .string k, s]
/-- what Ref answers -/
def Refd (w : World) (a b c : Int) (k : ByteArray) (L : List Fld) (e : Ending) (w' : World) : Prop := ∃ p cp, e = .returned (evV a b c k (.slice p (List.length L) cp)) ∧ Flds w' p L ∧ Below w.heap.size w w'
/-- the round of Ref's loop -/
structure RefI (w wq : World) (Y B : Nat) (a b c : Int) (k : ByteArray) (pv : Value) (L : List Fld) (j : Nat) (u : Value) : Prop where
  e : Blk wq Y 24 #[.int .i64 a, .int .i64 b, .int .i64 c, .string k, pv]
  z : Blk wq (Y + 1) 32 #[.int .i64 0, .int .i64 0, .int .i64 0, .string ⟨#[]⟩, .slice none 0 0]
  x : Blk wq (Y + 1 + 1) 32 #[.int .i64 a, .int .i64 b, .int .i64 c, .string k, u]
  o : wq.ownsRow B 62 5 u j (cellsF (L.take j))
  b : Below Y w wq
theorem RefI.push {w wq W0 w4 : World} {Y B : Nat} {a b c : Int} {k : ByteArray} {pv : Value} {L : List Fld} {j g cap : Nat} {u : Value} (h : RefI w wq Y B a b c k pv L j u) (hB : Y + 1 + 1 < B) (hj : j < L.length) (hW : Below wq.heap.size wq W0)
    (ho : w4.ownsRow B 62 5 (.slice (some ⟨g, 0, none⟩) (j + 1) cap) (j + 1) (cellsF (L.take j) ++ encF L[j])) (hg : W0.grownBy w4 u.ownBlock) :
    RefI w (w4.setCell ⟨Y + 1 + 1, 4, none⟩ (.slice (some ⟨g, 0, none⟩) (j + 1) cap)) Y B a b c k pv L (j + 1) (.slice (some ⟨g, 0, none⟩) (j + 1) cap) ∧ w4.frozen? ⟨Y + 1 + 1, 4, none⟩ = false ∧ w4.cell? ⟨Y + 1 + 1, 4, none⟩ = some u := by
  have hu : ∀ q, u.ownBlock = some q → B ≤ q := fun q hq => (World.ownsRow.lt h.o q hq).1
  have kp : ∀ {q : Nat} {t : TypeId} {cs : Array Value}, q < B → Blk wq q t cs → Blk w4 q t cs := fun hq hb => by
    have h0 := hb.below hW
    exact (hg.block _ h0.lt (fun e => by have := hu _ e.symm; omega)).trans h0
  have hx := kp (by omega) h.x
  have hgB : B ≤ g := (World.ownsRow.lt ho g rfl).1
  have ne : ∀ {q : Nat} {t : TypeId} {cs : Array Value}, q ≠ Y + 1 + 1 → Blk w4 q t cs → Blk (w4.setCell ⟨Y + 1 + 1, 4, none⟩ (.slice (some ⟨g, 0, none⟩) (j + 1) cap)) q t cs := fun hq hb => (Below.heap_setCell _ _ _ _ hq).trans hb
  refine ⟨⟨ne (by omega) (kp (by omega) h.e), ne (by omega) (kp (by omega) h.z), ?_, ?_, ?_⟩, hx.free 4, by rw [hx.cell]; rfl⟩
  · have := heap_setCell_same w4 (Y + 1 + 1) 4 #[.int .i64 a, .int .i64 b, .int .i64 c, .string k, u] 32 (.slice (some ⟨g, 0, none⟩) (j + 1) cap) hx
    exact this
  · have e : L.take (j + 1) = L.take j ++ [L[j]] := by rw [List.take_succ_eq_append_getElem hj]
    rw [e, cellsF_one]
    exact ownsRow_setCell_other ho (by simp [Value.ownBlock]; omega) _
  · have b1 : Below Y w W0 := h.b.trans (hW.mono (Nat.le_of_lt h.e.lt))
    have b2 : Below Y w w4 := b1.trans ⟨hg.os, hg.tape, hg.output, hg.size, fun q hq => hg.block q (Nat.lt_of_lt_of_le (Nat.lt_trans hq h.e.lt) hW.size) (fun e => by have := hu q e.symm; omega)⟩
    exact b2.setCell (p := ⟨Y + 1 + 1, 4, none⟩) (by show Y ≤ Y + 1 + 1; omega) _
theorem RefI.drew {w wq : World} {Y B : Nat} {a b c : Int} {k : ByteArray} {pv : Value} {L : List Fld} {j : Nat} {u : Value} (h : RefI w wq Y B a b c k pv L j u) : RefI w wq.drew Y B a b c k pv L j u :=
  ⟨h.e, h.z, h.x, World.ownsRow.kept h.o (row := none) ⟨rfl, rfl, rfl, Nat.le_refl _, fun _ _ _ => rfl⟩ (by cases u.ownBlock <;> simp), h.b.drew⟩
/-- what lies in the answer's block at the end -/
theorem ref_end {w wr : World} {Y : Nat} {a b c : Int} {k : ByteArray} {pv : Value} {L : List Fld} {ua : Option Addr} {uc j : Nat} (h : RefI w wr Y (Y + 3) a b c k pv L j (.slice ua j uc)) (hj : j = L.length) :
    ∃ W5, W5 = ((((wr.setCell ⟨Y + 1, 0, none⟩ (.int .i64 a)).setCell ⟨Y + 1, 1, none⟩ (.int .i64 b)).setCell ⟨Y + 1, 2, none⟩ (.int .i64 c)).setCell ⟨Y + 1, 3, none⟩ (.string k)).setCell ⟨Y + 1, 4, none⟩ (.slice ua j uc) ∧ Blk W5 (Y + 1) 32 #[.int .i64 a, .int .i64 b, .int .i64 c, .string k, .slice ua j uc] ∧ Below Y w W5 ∧ Flds W5 ua L := by
  have st : ∀ {W : World} {cs : Array Value} (i : Nat) (v : Value), Blk W (Y + 1) 32 cs → Blk (W.setCell ⟨Y + 1, i, none⟩ v) (Y + 1) 32 (cs.setIfInBounds i v) := fun i v hb => heap_setCell_same _ _ i _ 32 v hb
  have so : ∀ {W : World} (i : Nat) (v : Value), W.ownsRow (Y + 3) 62 5 (.slice ua j uc) j (cellsF (L.take j)) → (W.setCell ⟨Y + 1, i, none⟩ v).ownsRow (Y + 3) 62 5 (.slice ua j uc) j (cellsF (L.take j)) := fun i v ho => ownsRow_setCell_other ho (fun e => by have := (World.ownsRow.lt ho (Y + 1) (by first | exact e | exact e.symm)).1; omega) _
  have sb : ∀ {W : World} (i : Nat) (v : Value), Below Y w W → Below Y w (W.setCell ⟨Y + 1, i, none⟩ v) := fun i v hb => hb.setCell (p := ⟨Y + 1, i, none⟩) (by show Y ≤ Y + 1; omega) _
  have ho := so 4 (.slice ua j uc) (so 3 (.string k) (so 2 (.int .i64 c) (so 1 (.int .i64 b) (so 0 (.int .i64 a) h.o))))
  refine ⟨_, rfl, st 4 _ (st 3 _ (st 2 _ (st 1 _ (st 0 _ h.z)))), sb 4 _ (sb 3 _ (sb 2 _ (sb 1 _ (sb 0 _ h.b)))), ?_⟩
  rw [hj, List.take_of_length_le (Nat.le_refl _), ← hj] at ho
  rcases ho.2 with ⟨e, e0⟩ | ⟨g, cap, cur, e, _⟩
  · intro p hp; omega
  · cases e
    exact flds_own hj ho
/-- a cell, whatever it holds -/
def atx (w : World) (q : Nat) : Value := (w.cell? ⟨q, 4, none⟩).getD undef
theorem atx_eq {w : World} {q : Nat} {v : Value} (h : w.cell? ⟨q, 4, none⟩ = some v) : atx w q = v := by unfold atx; rw [h]; rfl
theorem atx_of {w : World} {q : Nat} {v : Value} (h : w.cell? ⟨q, 4, none⟩ = some v) : w.cell? ⟨q, 4, none⟩ = some (atx w q) := by rw [atx_eq h]; exact h
/-- what the round's region reads -/
abbrev SE (Y g0 o : Nat) (pv : Value) (x : Fld) (w' : World) : Prop :=
  w'.cell? ⟨Y, 4, none⟩ = some pv ∧ w'.cell? ⟨g0, o, none⟩ = some (.string x.nm) ∧ w'.cell? ⟨g0, o + 1, none⟩ = some (.int .i64 x.v.k) ∧ w'.cell? ⟨g0, o + 2, none⟩ = some (.int .i64 x.v.n) ∧ w'.cell? ⟨g0, o + 3, none⟩ = some (.float .f64 x.v.f) ∧ w'.cell? ⟨g0, o + 4, none⟩ = some (.string x.v.s)
theorem SE.drew {Y g0 o : Nat} {pv : Value} {x : Fld} {w' : World} (h : SE Y g0 o pv x w') : SE Y g0 o pv x w'.drew := h
theorem SE.below {Y g0 o : Nat} {pv : Value} {x : Fld} {w w' : World} (h : SE Y g0 o pv x w) (hb : Below w.heap.size w w') : SE Y g0 o pv x w' := by
  obtain ⟨c1, c3, c4, c5, c6, c7⟩ := h
  have e : ∀ {b o : Nat} {v : Value}, w.cell? ⟨b, o, none⟩ = some v → w'.cell? ⟨b, o, none⟩ = some v := fun hc => by rw [hb.cell (p := ⟨_, _, none⟩) (World.block_lt_of_cell? _ _ hc)]; exact hc
  exact ⟨e c1, e c3, e c4, e c5, e c6, e c7⟩
theorem SE.alloc {Y g0 o : Nat} {pv : Value} {x : Fld} {w : World} (h : SE Y g0 o pv x w) (ob : Obj) : SE Y g0 o pv x (w.alloc ob) := h.below ((Below.refl _ _).alloc (Nat.le_refl _) _)
theorem SE.push {Y g0 o : Nat} {pv uu : Value} {x : Fld} {w W0 w4 : World} (h : SE Y g0 o pv x w) (hW : Below w.heap.size w W0) (hg : W0.grownBy w4 uu.ownBlock) (hu : ∀ q, uu.ownBlock = some q → Y + 3 ≤ q) (hgb : g0 < Y) : SE Y g0 o pv x w4 := by
  obtain ⟨c1, c3, c4, c5, c6, c7⟩ := h.below hW
  have e : ∀ {b o : Nat} {v : Value}, b < Y + 3 → W0.cell? ⟨b, o, none⟩ = some v → w4.cell? ⟨b, o, none⟩ = some v := fun {b} {_} {_} hb hc => by
    have hlt : b < W0.heap.size := World.block_lt_of_cell? _ _ hc
    rw [World.cell?_of_block (hg.block b hlt (fun e => by have := hu b e.symm; omega))]; exact hc
  exact ⟨e (by omega) c1, e (by omega) c3, e (by omega) c4, e (by omega) c5, e (by omega) c6, e (by omega) c7⟩
theorem SE.set {Y g0 o : Nat} {pv : Value} {x : Fld} {w : World} (h : SE Y g0 o pv x w) (hgb : g0 < Y) (v : Value) : SE Y g0 o pv x (w.setCell ⟨Y + 1 + 1, 4, none⟩ v) := by
  obtain ⟨c1, c3, c4, c5, c6, c7⟩ := h
  have e : ∀ {b o : Nat} {u : Value}, b ≠ Y + 1 + 1 → w.cell? ⟨b, o, none⟩ = some u → (w.setCell ⟨Y + 1 + 1, 4, none⟩ v).cell? ⟨b, o, none⟩ = some u := fun {b} {_} {_} hb hc => by
    rw [World.cell?_of_block (Below.heap_setCell w ⟨Y + 1 + 1, 4, none⟩ v b hb)]; exact hc
  exact ⟨e (by omega) c1, e (by omega) c3, e (by omega) c4, e (by omega) c5, e (by omega) c6, e (by omega) c7⟩
set_option maxHeartbeats 2000000 in
set_option maxRecDepth 100000 in
theorem ref_any (a b c : Int) (k : ByteArray) (p : Option Addr) (cp : Nat) (L : List Fld) (w : World) (hl : L.length ≤ 100) (hx : Flds w p L) :
    Calls Try.prog 15 #[evV a b c k (.slice p L.length cp)] w (Refd w a b c k L) := by
  have HX := Lib.hid hx
  clear hx
  obtain ⟨w3, hw3, I0, B3, hs3⟩ : ∃ w3, w3 = ((w.alloc (.cells #[.int .i64 a, .int .i64 b, .int .i64 c, .string k, .slice p L.length cp] 24)).alloc (.cells #[.int .i64 0, .int .i64 0, .int .i64 0, .string ⟨#[]⟩, .slice none 0 0] 32)).alloc (.cells #[.int .i64 a, .int .i64 b, .int .i64 c, .string k, .slice none 0 0] 32) ∧
      RefI w w3 w.heap.size (w.heap.size + 3) a b c k (.slice p L.length cp) L 0 (.slice none 0 0) ∧ Below w.heap.size w w3 ∧ w3.heap.size = w.heap.size + 3 := by
    have B1 := (Below.refl w.heap.size w).alloc (Nat.le_refl _) (.cells #[.int .i64 a, .int .i64 b, .int .i64 c, .string k, .slice p L.length cp] 24)
    have e1 : Blk (w.alloc (.cells #[.int .i64 a, .int .i64 b, .int .i64 c, .string k, .slice p L.length cp] 24)) w.heap.size 24 #[.int .i64 a, .int .i64 b, .int .i64 c, .string k, .slice p L.length cp] := heap_alloc_new w _
    have h1 : (w.alloc (.cells #[.int .i64 a, .int .i64 b, .int .i64 c, .string k, .slice p L.length cp] 24)).heap.size = w.heap.size + 1 := by simp
    generalize w.alloc (.cells #[.int .i64 a, .int .i64 b, .int .i64 c, .string k, .slice p L.length cp] 24) = w1 at *
    have b2 := (Below.refl w1.heap.size w1).alloc (Nat.le_refl _) (.cells #[.int .i64 0, .int .i64 0, .int .i64 0, .string ⟨#[]⟩, .slice none 0 0] 32)
    have e2 : Blk (w1.alloc (.cells #[.int .i64 0, .int .i64 0, .int .i64 0, .string ⟨#[]⟩, .slice none 0 0] 32)) w1.heap.size 32 #[.int .i64 0, .int .i64 0, .int .i64 0, .string ⟨#[]⟩, .slice none 0 0] := heap_alloc_new w1 _
    have h2 : (w1.alloc (.cells #[.int .i64 0, .int .i64 0, .int .i64 0, .string ⟨#[]⟩, .slice none 0 0] 32)).heap.size = w1.heap.size + 1 := by simp
    have e1' := e1.below b2
    have B2 := B1.trans (b2.mono (by omega))
    generalize w1.alloc (.cells #[.int .i64 0, .int .i64 0, .int .i64 0, .string ⟨#[]⟩, .slice none 0 0] 32) = w2 at *
    have b3 := (Below.refl w2.heap.size w2).alloc (Nat.le_refl _) (.cells #[.int .i64 a, .int .i64 b, .int .i64 c, .string k, .slice none 0 0] 32)
    have e3 : Blk (w2.alloc (.cells #[.int .i64 a, .int .i64 b, .int .i64 c, .string k, .slice none 0 0] 32)) w2.heap.size 32 #[.int .i64 a, .int .i64 b, .int .i64 c, .string k, .slice none 0 0] := heap_alloc_new w2 _
    refine ⟨_, rfl, ⟨e1'.below b3, ?_, ?_, World.ownsRow_nil _ _ _ _, B2.trans (b3.mono (by omega))⟩, B2.trans (b3.mono (by omega)), by simp; omega⟩
    · have := e2.below b3; rw [h1] at this; exact this
    · rw [h2, h1] at e3; exact e3
  generalize hn : L.length = n at *
  have HN := Lib.hid hn
  have W3 := Lib.hid hw3
  have I0h := Lib.hid I0
  have B3h := Lib.hid B3
  clear hn hw3 I0 B3
  generalize hy : w.heap.size = Y at *
  obtain ⟨i62, hi, hz0, hz1, hz2⟩ := info_parts info62
  unfold evV
  go_enter Try.func15, Try.ntmps15
  go_wp2_with fail
  rw [← W3.out]
  go_loopw [4] (fun i wq => ∃ (j : Nat) (u : Value), i = .int .i64 j ∧ j ≤ n ∧ RefI w wq Y (Y + 3) a b c k (.slice p n cp) L j u ∧ Y + 3 ≤ wq.heap.size) (fun i _ => n - (intOf i).toNat)
  case atStart => exact ⟨0, .slice none 0 0, rfl, Nat.zero_le _, I0h.out, by omega⟩
  case round =>
    obtain ⟨j, u, rfl, hj, hI, hsz⟩ := hrel
    have HI := Lib.hid hI
    obtain ⟨ua, uc, hu⟩ := fld_form hI.o
    subst hu
    have e0 : wr.cell? ⟨Y, 0, none⟩ = some (.int .i64 a) := hI.e.cell 0
    have e4 : wr.cell? ⟨Y, 4, none⟩ = some (.slice p n cp) := hI.e.cell 4
    have x0 : wr.cell? ⟨Y + 1 + 1, 0, none⟩ = some (.int .i64 a) := hI.x.cell 0
    have x1 : wr.cell? ⟨Y + 1 + 1, 1, none⟩ = some (.int .i64 b) := hI.x.cell 1
    have x2 : wr.cell? ⟨Y + 1 + 1, 2, none⟩ = some (.int .i64 c) := hI.x.cell 2
    have x3 : wr.cell? ⟨Y + 1 + 1, 3, none⟩ = some (.string k) := hI.x.cell 3
    have x4 : wr.cell? ⟨Y + 1 + 1, 4, none⟩ = some (.slice ua j uc) := hI.x.cell 4
    clear hI
    by_cases hjn : j < n
    · have hjL : j < L.length := by rw [HN.out]; exact hjn
      obtain ⟨g0, o, rfl, hg0, c0, c1, c2, c3, c4⟩ := HX.out j hjL
      have hgb : g0 < Y := by rw [← hy]; exact hg0
      rw [← HI.out.b.cell (p := ⟨g0, _, none⟩) hgb] at c0 c1 c2 c3 c4
      have PU := Lib.hid (fun W0 w4 g cap => HI.out.push (W0 := W0) (w4 := w4) (g := g) (cap := cap) (by omega) hjL)
      unfold encF at PU
      generalize L[j] = x at *
      obtain ⟨xn, xk, xm, xf, xs⟩ := x
      simp only at c0 c1 c2 c3 c4 PU
      have H1C : Hid (∀ u ∈ [Value.string xn, .int .i64 xk, .int .i64 xm, .float .f64 xf, .string xs], u.oneCell' = true) := Lib.hid (by
        intro u hu
        simp at hu
        rcases hu with rfl | rfl | rfl | rfl | rfl <;> rfl)
      have lx : Y + 1 + 1 < wr.heap.size := by omega
      have y4 : ∀ o, (wr.alloc o).cell? ⟨Y + 1 + 1, 4, none⟩ = some (.slice ua j uc) := fun o => by rw [World.cell?_alloc_lt _ _ _ lx]; exact x4
      clear e0 x0 x1 x2 x3
      go_wp2_with fail
      have s0 : SE Y g0 (o + j * 5) (.slice (some ⟨g0, o, none⟩) n cp) ⟨xn, xk, xm, xf, xs⟩ wr := ⟨e4, c0, c1, c2, c3, c4⟩
      have hub : Hid (∀ q, (Value.slice ua j uc).ownBlock = some q → Y + 3 ≤ q) := Lib.hid (fun q hq => (World.ownsRow.lt HI.out.o q hq).1)
      go_region_held_law (fun w' => w'.cell? ⟨Y, 4, none⟩ = some (.slice (some ⟨g0, o, none⟩) n cp) ∧ w'.cell? ⟨g0, o + j * 5, none⟩ = some (.string xn) ∧ w'.cell? ⟨g0, o + j * 5 + 1, none⟩ = some (.int .i64 xk) ∧ w'.cell? ⟨g0, o + j * 5 + 2, none⟩ = some (.int .i64 xm) ∧ w'.cell? ⟨g0, o + j * 5 + 3, none⟩ = some (.float .f64 xf) ∧ w'.cell? ⟨g0, o + j * 5 + 4, none⟩ = some (.string xs))
        (first | assumption | exact SE.drew (x := ⟨xn, xk, xm, xf, xs⟩) (by assumption) | exact SE.alloc (x := ⟨xn, xk, xm, xf, xs⟩) (by assumption) _ | exact s4 | exact SE.set s4 hgb _)
        ((refine step_append_lies _ rfl (.tmp 22) (.tmp 36) 30 rfl (Y + 3) 62 i62 (.agg #[.string ⟨#[]⟩, .int .i64 0, .int .i64 0, .float .f64 0, .string ⟨#[]⟩]) 5 56 Try.underlying30 hi hz0 hz1 hz2 rfl (by decide) (.slice ua j uc) j (cellsF (L.take j)) rfl (World.ownsRow.alloc HI.out.o _) ⟨wr.heap.size, 0, none⟩ 1 1 [.string xn, .int .i64 xk, .int .i64 xm, .float .f64 xf, .string xs] rfl rfl (World.news_of_block (cs := #[.string xn, .int .i64 xk, .int .i64 xm, .float .f64 xf, .string xs]) (heap_alloc_new wr _)) H1C.out (by decide) (by unfold maxLen; omega) (by omega) (by show Y + 3 ≤ (wr.alloc _).heap.size; simp; omega) _ rfl ?_; intro g4 cap4 w4 ho4 hg4 hat4 _; obtain ⟨I4, f4, q4⟩ := PU.out _ w4 g4 cap4 (((Below.refl _ wr).drew).alloc (Nat.le_refl _) _) ho4 hg4; have I4h := Lib.hid I4; have s4 := SE.push s0 (((Below.refl _ wr).drew).alloc (Nat.le_refl _) _) hg4 hub.out hgb; clear I4 ho4 hg4 hat4))
      all_goals
        have G5 := World.ownsRow.lt I4h.out.o g4 rfl
        have hzz : Y + 3 ≤ (w4.setCell { block := Y + 1 + 1, off := 4 } (Value.slice (some { block := g4, off := 0 }) (j + 1) cap4)).heap.size := by have := G5.1; have := G5.2; omega
        clear f4 q4 s4 s0 x4 y4 hub H1C PU c0 c1 c2 c3 c4 e4 G5 HI I0h W3 HX B3h
        go_wp2_with fail
        go_roundw
        case rel => exact ⟨j + 1, _, by go_num, by omega, I4h.out, hzz⟩
        case measure => simp [intOf]; omega
    · obtain rfl : j = n := by omega
      have z0 : wr.cell? ⟨Y + 1, 0, none⟩ = some (.int .i64 0) := HI.out.z.cell 0
      have z1 : wr.cell? ⟨Y + 1, 1, none⟩ = some (.int .i64 0) := HI.out.z.cell 1
      have z2 : wr.cell? ⟨Y + 1, 2, none⟩ = some (.int .i64 0) := HI.out.z.cell 2
      have z3 : wr.cell? ⟨Y + 1, 3, none⟩ = some (.string ⟨#[]⟩) := HI.out.z.cell 3
      have z4 : wr.cell? ⟨Y + 1, 4, none⟩ = some (.slice none 0 0) := HI.out.z.cell 4
      have f0 := HI.out.z.free 0
      have f1 := HI.out.z.free 1
      have f2 := HI.out.z.free 2
      have f3 := HI.out.z.free 3
      have f4 := HI.out.z.free 4
      obtain ⟨W5, hW5, R5, B5, L5⟩ := ref_end HI.out HN.out.symm
      have R5h := Lib.hid R5
      have B5h := Lib.hid B5
      have L5h := Lib.hid L5
      have W5h := Lib.hid hW5
      clear hW5 R5 B5 L5
      go_wp2_with fail
      rw [← W5h.out]
      have q0 : W5.cell? ⟨Y + 1, 0, none⟩ = some (.int .i64 a) := R5h.out.cell 0
      have q1 : W5.cell? ⟨Y + 1, 1, none⟩ = some (.int .i64 b) := R5h.out.cell 1
      have q2 : W5.cell? ⟨Y + 1, 2, none⟩ = some (.int .i64 c) := R5h.out.cell 2
      have q3 : W5.cell? ⟨Y + 1, 3, none⟩ = some (.string k) := R5h.out.cell 3
      have q4 : W5.cell? ⟨Y + 1, 4, none⟩ = some (.slice ua j uc) := R5h.out.cell 4
      refine bodyPost_ret (by simp [results, Try.results15, go_sem, q0, q1, q2, q3, q4]; try rfl) rfl ?_
      exact ⟨ua, uc, by rw [HN.out]; rfl, L5h.out, hy ▸ B5h.out⟩
end Go.Proofs.Ytjclcbgmpaaokab
