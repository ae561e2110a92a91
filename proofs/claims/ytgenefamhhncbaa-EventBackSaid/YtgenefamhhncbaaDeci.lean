/-
  DECODING, ITS MEMORY: what holds at the loop's head; sizes of what is read.
-/
import Derived.Test.YtgenefamhhncbaaTkv
import Derived.Deep.AppendLies
import Derived.Deep.RegionLaw
namespace Go.Proofs.Ytgenefamhhncbaa
open Go.RowKit
structure Ev where
  a : Int
  b : Int
  c : Int
  k : ByteArray
  L : List Fld
def evNil : Ev := ⟨0, 0, 0, ⟨#[]⟩, []⟩
def decC (s : ByteArray) : Ev := if okC s = true then ⟨w64 (d1 s).1, w64 (d2 s).1, w64 (d3 s).1, (d4 s).1, (dF s).1⟩ else evNil
def decE (s : ByteArray) : Int := if okC s = true then 0 else 3
/-- what a decoding answers -/
def Decd (w : World) (v : Ev) (er : Int) (e : Ending) (w' : World) : Prop := ∃ p cp, e = .returned (.tuple #[evV v.a v.b v.c v.k (.slice p v.L.length cp), .int .i64 er]) ∧ Flds w' p v.L ∧ Below w.heap.size w w'
theorem tText_size (s : ByteArray) (e most : Int) : (Bt.tText s e most).1.size ≤ s.size := by
  unfold Bt.tText Bt.tk
  split
  · exact Nat.zero_le _
  · split
    · exact Nat.zero_le _
    · unfold Bt.rdText
      split
      · exact Nat.zero_le _
      · split
        · exact Nat.zero_le _
        · split
          · exact Nat.zero_le _
          · show (ByteArray.extract _ _ _).size ≤ _
            rw [ByteArray.size_extract]
            omega
theorem valAt_size (k : Int) (s : ByteArray) (e : Int) : (valAt k s e).1.s.size ≤ s.size ∧ (valAt k s e).2.1.size ≤ s.size := by
  unfold valAt
  split
  · exact ⟨Nat.zero_le _, tk_size _ _ _ _⟩
  · split
    · exact ⟨Nat.zero_le _, tk_size _ _ _ _⟩
    · split
      · exact ⟨tText_size _ _ _, tk_size _ _ _ _⟩
      · exact ⟨Nat.zero_le _, Nat.le_refl _⟩
theorem dFlds_size {V : ByteArray → Int → Val × ByteArray × Int} (hV : ∀ s e, (V s e).1.s.size ≤ s.size ∧ (V s e).2.1.size ≤ s.size) (s : ByteArray) (e : Int) : ∀ j, (dFlds V s e j).2.1.size ≤ s.size ∧ ∀ x ∈ (dFlds V s e j).1, x.nm.size ≤ s.size ∧ x.v.s.size ≤ s.size
  | 0 => ⟨Nat.le_refl _, fun x hx => by cases hx⟩
  | j + 1 => by
    obtain ⟨h1, h2⟩ := dFlds_size hV s e j
    have t1 := tText_size (dFlds V s e j).2.1 (dFlds V s e j).2.2 16
    have t2 : (Bt.tText (dFlds V s e j).2.1 (dFlds V s e j).2.2 16).2.1.size ≤ (dFlds V s e j).2.1.size := tk_size _ _ _ _
    obtain ⟨v1, v2⟩ := hV (Bt.tText (dFlds V s e j).2.1 (dFlds V s e j).2.2 16).2.1 (Bt.tText (dFlds V s e j).2.1 (dFlds V s e j).2.2 16).2.2
    refine ⟨by show (V _ _).2.1.size ≤ _; omega, fun x hx => ?_⟩
    have hx : x ∈ (dFlds V s e j).1 ++ [_] := hx
    rcases List.mem_append.1 hx with hx | hx
    · exact h2 x hx
    · rw [List.mem_singleton] at hx
      subst hx
      exact ⟨by show (Bt.tText _ _ _).1.size ≤ _; omega, by show (V _ _).1.s.size ≤ _; omega⟩
theorem tVal_size (s : ByteArray) (e : Int) : (tVal s e).1.s.size ≤ s.size ∧ (tVal s e).2.1.size ≤ s.size := by
  obtain ⟨h1, h2⟩ := valAt_size (w64 (Bt.tNum s e).1) (Bt.tNum s e).2.1 (Bt.tNum s e).2.2
  have h3 : (Bt.tNum s e).2.1.size ≤ s.size := tk_size _ _ _ _
  exact ⟨Nat.le_trans h1 h3, Nat.le_trans h2 h3⟩
theorem rVal_size (s : ByteArray) (e : Int) : (rVal s e).1.s.size ≤ s.size ∧ (rVal s e).2.1.size ≤ s.size := by
  obtain ⟨h1, h2⟩ := valAt_size (lim (Bt.tNum s e).1 3) (Bt.tNum s e).2.1 (Bt.tNum s e).2.2
  have h3 : (Bt.tNum s e).2.1.size ≤ s.size := tk_size _ _ _ _
  exact ⟨Nat.le_trans h1 h3, Nat.le_trans h2 h3⟩
theorem info65 : (Try.prog.info? 65).map (fun i => (i.zero, i.size, i.bytes)) = some (some (.agg #[.string ⟨#[]⟩, .int .i64 0, .int .i64 0, .float .f64 0, .string ⟨#[]⟩]), 5, 56) := by kernel_rfl
/-- at the head of Decode's loop: Y the answer's block, b the tape's, X the event's -/
structure DecI (w W : World) (Y b X : Nat) (a1 a2 a3 : Int) (k : ByteArray) (L : List Fld) (j : Nat) (u : Value) (s : ByteArray) (e : Int) : Prop where
  y : Blk W Y 24 #[.int .i64 0, .int .i64 0, .int .i64 0, .string ⟨#[]⟩, .slice none 0 0]
  x : Blk W X 24 #[.int .i64 a1, .int .i64 a2, .int .i64 a3, .string k, u]
  t : Bt.TapeAt W b s e
  o : W.ownsRow (X + 1) 65 5 u j (cellsF L)
  b : Below Y w W
theorem below_grown {w v u : World} {Y b : Nat} (h : Below Y w v) (hg : v.grownBy u (some b)) (hb : Y ≤ b) (hY : Y ≤ v.heap.size) : Below Y w u :=
  h.trans ⟨hg.os, hg.tape, hg.output, hg.size, fun k hk => hg.block k (by omega) (by simp; omega)⟩
theorem blk_kept {v w : World} {r : Option Nat} {q : Nat} {t : TypeId} {cs : Array Value} (hg : v.grownBy w r) (hne : some q ≠ r) (h : Blk v q t cs) : Blk w q t cs := (hg.block q h.lt hne).trans h
theorem DecI.push {w W W0 w4 : World} {Y b X : Nat} {a1 a2 a3 : Int} {k : ByteArray} {L : List Fld} {j : Nat} {u : Value} {s s' : ByteArray} {e e' : Int} {x : Fld} {g cap : Nat} (h : DecI w W Y b X a1 a2 a3 k L j u s e) (hYb : Y < b) (hbX : b < X)
    (hg : W.grownBy W0 (some b)) (ht : Bt.TapeAt W0 b s' e') (ho : w4.ownsRow (X + 1) 65 5 (.slice (some ⟨g, 0, none⟩) (j + 1) cap) (j + 1) (cellsF L ++ encF x)) (hg4 : W0.grownBy w4 u.ownBlock) :
    DecI w (w4.setCell ⟨X, 4, none⟩ (.slice (some ⟨g, 0, none⟩) (j + 1) cap)) Y b X a1 a2 a3 k (L ++ [x]) (j + 1) (.slice (some ⟨g, 0, none⟩) (j + 1) cap) s' e' ∧ w4.frozen? ⟨X, 4, none⟩ = false ∧ w4.cell? ⟨X, 4, none⟩ = some u := by
  have hu : ∀ q, u.ownBlock = some q → X + 1 ≤ q := fun q hq => (World.ownsRow.lt h.o q hq).1
  have nu : ∀ {q : Nat}, q < X + 1 → some q ≠ u.ownBlock := fun hq e => by have := hu _ e.symm; omega
  have y4 := blk_kept hg4 (nu (by omega)) (blk_kept hg (by simp; omega) h.y)
  have x4 := blk_kept hg4 (nu (by omega)) (blk_kept hg (by simp; omega) h.x)
  have t4 : Bt.TapeAt w4 b s' e' := (hg4.block b ht.lt (nu (by omega))).trans ht
  have hl : Y ≤ W.heap.size := by have := h.t.lt; omega
  have hl0 : Y ≤ W0.heap.size := by have := ht.lt; omega
  have hgb : X + 1 ≤ g := (World.ownsRow.lt ho g rfl).1
  refine ⟨⟨y4.set_other (by omega) _ _, x4.set 4 _, tape_set t4 (by omega) _ _, ?_, ?_⟩, x4.free 4, x4.cell 4⟩
  · rw [cellsF_one]
    exact ownsRow_setCell_other ho (by simp [Value.ownBlock]; omega) _
  · have b0 := below_grown h.b hg (by omega) hl
    have b4 : Below Y w w4 := b0.trans ⟨hg4.os, hg4.tape, hg4.output, hg4.size, fun q hq => hg4.block q (by omega) (nu (by omega))⟩
    exact b4.setCell (p := ⟨X, 4, none⟩) (by show Y ≤ X; omega) _
theorem decd_nil {w W : World} {DC : Ev} {DE : Int} {OK : Bool} (h : OK = false → DC = evNil ∧ DE = 3) (ho : OK = false) (hb : Below w.heap.size w W) : Decd w DC DE (.returned (.tuple #[.agg #[.int .i64 0, .int .i64 0, .int .i64 0, .string ⟨#[]⟩, .slice none 0 0], .int .i64 3])) W := by
  obtain ⟨rfl, rfl⟩ := h ho
  exact ⟨none, 0, rfl, (fun i hi => (Nat.not_lt_zero i hi).elim), hb⟩
theorem decd_yes {w W : World} {DC : Ev} {DE a b c : Int} {k : ByteArray} {L : List Fld} {p : Option Addr} {n cp : Nat} (h : DC = ⟨a, b, c, k, L⟩ ∧ DE = 0) (hn : L.length = n) (hF : Flds W p L) (hb : Below w.heap.size w W) : Decd w DC DE (.returned (.tuple #[.agg #[.int .i64 a, .int .i64 b, .int .i64 c, .string k, .slice p n cp], .int .i64 0])) W := by
  obtain ⟨rfl, rfl⟩ := h
  subst hn
  exact ⟨p, cp, rfl, hF, hb⟩
theorem gb_drew {w v : World} {r : Option Nat} (h : w.drew.grownBy v r) : w.grownBy v r := ⟨h.os, h.tape, h.output, h.size, h.block⟩
theorem row_form {w : World} {B t : Nat} {v : Value} {n : Nat} {xs : List Value} (h : w.ownsRow B t 5 v n xs) : ∃ a c, v = .slice a n c := by
  rcases h.2 with ⟨rfl, e⟩ | ⟨g, cap, cur, rfl, _⟩
  · exact ⟨none, 0, by rw [e]⟩
  · exact ⟨_, _, rfl⟩
theorem DecI.own {w W W0 : World} {Y b X : Nat} {a1 a2 a3 : Int} {k : ByteArray} {L : List Fld} {j : Nat} {u : Value} {s : ByteArray} {e : Int} (h : DecI w W Y b X a1 a2 a3 k L j u s e) (hbX : b < X) (hg : W.grownBy W0 (some b)) : W0.ownsRow (X + 1) 65 5 u j (cellsF L) :=
  World.ownsRow.kept h.o hg (by
    rcases hu : u.ownBlock with _ | q
    · exact Or.inl rfl
    · right
      have := (World.ownsRow.lt h.o q hu).1
      simp; omega)
theorem flds_row {w : World} {B t n cap : Nat} {p : Option Addr} {l : List Fld} (hn : n = l.length) (h : w.ownsRow B t 5 (.slice p n cap) n (cellsF l)) : Flds w p l := by
  rcases h.2 with ⟨e, e0⟩ | ⟨g, cap, cur, e, _⟩
  · intro i hi; omega
  · cases e
    exact flds_own hn h
theorem ev_one (x : Fld) : ∀ u ∈ encF x, u.oneCell' = true := by
  intro u hu
  simp [encF] at hu
  rcases hu with rfl | rfl | rfl | rfl | rfl <;> rfl
/-- an event's cells stored into a block of the call's own -/
theorem ev_put {u W : World} {Y : Nat} {t : TypeId} (a b c : Int) (k : ByteArray) (v : Value) {cs : Array Value} (h : Blk W Y t cs) (hs : cs.size = 5) (hY : u.heap.size ≤ Y) (hb : Below u.heap.size u W) :
    ∃ W5, W5 = ((((W.setCell ⟨Y, 0, none⟩ (.int .i64 a)).setCell ⟨Y, 1, none⟩ (.int .i64 b)).setCell ⟨Y, 2, none⟩ (.int .i64 c)).setCell ⟨Y, 3, none⟩ (.string k)).setCell ⟨Y, 4, none⟩ v ∧ Blk W5 Y t #[.int .i64 a, .int .i64 b, .int .i64 c, .string k, v] ∧ Below u.heap.size u W5 ∧ (∀ q, q ≠ Y → W5.heap[q]? = W.heap[q]?) ∧ W5.heap.size = W.heap.size := by
  obtain ⟨l⟩ := cs
  match l, hs with
  | [x0, x1, x2, x3, x4], _ =>
    refine ⟨_, rfl, ((((h.set 0 _).set 1 _).set 2 _).set 3 _).set 4 _, ((((hb.setCell (p := ⟨Y, 0, none⟩) hY _).setCell (p := ⟨Y, 1, none⟩) hY _).setCell (p := ⟨Y, 2, none⟩) hY _).setCell (p := ⟨Y, 3, none⟩) hY _).setCell (p := ⟨Y, 4, none⟩) hY _, fun q hq => ?_, by simp⟩
    rw [Below.heap_setCell _ _ _ _ (show q ≠ Y from hq), Below.heap_setCell _ _ _ _ (show q ≠ Y from hq), Below.heap_setCell _ _ _ _ (show q ≠ Y from hq), Below.heap_setCell _ _ _ _ (show q ≠ Y from hq), Below.heap_setCell _ _ _ _ (show q ≠ Y from hq)]
theorem Flds.other {w w' : World} {p : Option Addr} {L : List Fld} {Y : Nat} (h : Flds w p L) (hn : ∀ g o, p = some ⟨g, o, none⟩ → 0 < L.length → g ≠ Y) (hh : ∀ q, q ≠ Y → w'.heap[q]? = w.heap[q]?) (hs : w'.heap.size = w.heap.size) : Flds w' p L := fun i hi => by
  obtain ⟨g, o, e, hl, c0, c1, c2, c3, c4⟩ := h i hi
  have hg := hn g o e (by omega)
  have q : ∀ {j : Nat} {v : Value}, w.cell? ⟨g, j, none⟩ = some v → w'.cell? ⟨g, j, none⟩ = some v := fun hc => by
    rw [← hc]; exact World.cell?_of_block (hh g hg)
  exact ⟨g, o, e, by rw [hs]; exact hl, q c0, q c1, q c2, q c3, q c4⟩
end Go.Proofs.Ytgenefamhhncbaa
