/-
  WHAT WAS ADDED, one item for each time; flags in memory.
-/
import Derived.Test.YtiklaaganiafjabFull
import Derived.OwnWalk
import Derived.Laws.OwnMore
import Derived.Deep.QuietTactic
import Derived.BigQuiet
namespace Go.Proofs.Ytiklaaganiafjab
open Go.RowKit
/-- the first k items that were added, of the times xs -/
def mk (xs : List Int) (f : Nat → Int) (k : Nat) : List It := (List.range k).map fun q => ⟨xs.getD q 0, (q : Int) + 1, f q⟩
theorem mk_succ (xs : List Int) (f : Nat → Int) (k : Nat) : mk xs f (k + 1) = mk xs f k ++ [⟨xs.getD k 0, (k : Int) + 1, f k⟩] := by
  unfold mk
  rw [List.range_succ, List.map_append]
  rfl
theorem mk_len (xs : List Int) (f : Nat → Int) (k : Nat) : (mk xs f k).length = k := by unfold mk; simp
theorem mk_mem {xs : List Int} {f : Nat → Int} {k : Nat} {x : It} : x ∈ mk xs f k ↔ ∃ q, q < k ∧ x = ⟨xs.getD q 0, (q : Int) + 1, f q⟩ := by
  unfold mk
  simp only [List.mem_map, List.mem_range]
  exact ⟨fun ⟨q, h, e⟩ => ⟨q, h, e.symm⟩, fun ⟨q, h, e⟩ => ⟨q, h, e.symm⟩⟩
theorem mk_next {xs : List Int} {f : Nat → Int} {k : Nat} {R : List It} (h : R.Perm (mk xs f k)) {t x : Int} (ht : t = xs.getD k 0) (hx : x = f k) : (ins ⟨t, (k : Int) + 1, x⟩ R).Perm (mk xs f (k + 1)) := by
  subst ht; subst hx
  rw [mk_succ]
  exact (ins_perm _ _).trans ((List.Perm.cons _ h).trans (List.perm_append_singleton _ _).symm)
theorem getD_get {xs : List Int} {k : Nat} (h : k < xs.length) : xs.getD k 0 = xs[k] := by rw [List.getD_eq_getElem?_getD, List.getElem?_eq_getElem h]; rfl
/-- flags in a block of the program's own -/
def Flg (w : World) (base s n : Nat) (f : Nat → Bool) : Prop := w.ownsRow base 4 1 (.slice (some ⟨s, 0, none⟩) n n) n ((List.range n).map fun j => Value.bool (f j))
theorem Flg.cell {w : World} {base s n : Nat} {f : Nat → Bool} (h : Flg w base s n f) {j : Nat} (hj : j < n) : w.cell? ⟨s, j, none⟩ = some (.bool (f j)) := by
  unfold Flg at h
  rw [h.cellAt j (by omega)]
  simp [hj]
theorem Flg.free {w : World} {base s n : Nat} {f : Nat → Bool} (h : Flg w base s n f) (j : Nat) : w.frozen? ⟨s, j, none⟩ = false := World.ownsRow.frozenAt h j
theorem Flg.lt {w : World} {base s n : Nat} {f : Nat → Bool} (h : Flg w base s n f) : s < w.heap.size := (World.ownsRow.lt h s rfl).2
theorem Flg.put {w : World} {base s n : Nat} {f : Nat → Bool} (h : Flg w base s n f) (j : Nat) : Flg (w.setCell ⟨s, j, none⟩ (.bool true)) base s n (fun q => q == j || f q) := by
  unfold Flg at *
  have h2 := (World.ownsRow.stored h j (.bool true)).1
  have e : ((List.range n).map fun q => Value.bool (f q)).set j (.bool true) = (List.range n).map fun q => Value.bool (q == j || f q) := by
    apply List.ext_getElem
    · simp
    · intro q h1 h2
      rw [List.getElem_set]
      simp only [List.getElem_map, List.getElem_range]
      by_cases hq : j = q
      · subst hq; simp
      · have : (q == j) = false := by simp; exact fun e => hq e.symm
        simp [hq, this]
  rw [e] at h2
  exact h2
theorem Flg.below {w w' : World} {base s n : Nat} {f : Nat → Bool} (h : Flg w base s n f) (hb : Below w.heap.size w w') : Flg w' base s n f := World.ownsRow.kept h (grown_below hb none) (.inr (by simp [Value.ownBlock]))
theorem Flg.tch {w w' : World} {base s n A : Nat} {r r' : Option Nat} {f : Nat → Bool} (h : Flg w base s n f) (t : Tch w w' A r r') (h1 : s ≠ A) (h2 : some s ≠ r) : Flg w' base s n f :=
  own_tch h t (by simpa [Value.ownBlock] using h1) (.inr h2)
theorem info4 : (Try.prog.info? 4).map (fun i => (i.zero, i.size, i.bytes)) = some (some (.bool false), 1, 1) := by kernel_rfl
theorem flg_made {w : World} {base s n : Nat} (h : w.ownsRow base 4 1 (.slice (some ⟨s, 0, none⟩) n n) n (madeCells (Value.cells (.bool false)) (n * 1)).toList) : Flg w base s n (fun _ => false) := by
  unfold Flg
  have e : (madeCells (Value.cells (.bool false)) (n * 1)).toList = (List.range n).map fun _ => Value.bool false := by
    show (madeCells #[.bool false] (n * 1)).toList = _
    rw [toList_madeCells_one, Nat.mul_one]
    apply List.ext_getElem
    · simp
    · intro q h1 h2; simp
  rw [e] at h
  exact h
/-- a row and a store to another block -/
theorem own_put {w : World} {B s j : Nat} {e : TypeId} {v : Value} {n : Nat} {xs : List Value} {u : Value} (h : w.ownsRow B e 3 v n xs) (hv : v.ownBlock ≠ some s) : (w.setCell ⟨s, j, none⟩ u).ownsRow B e 3 v n xs :=
  World.ownsRow.kept h (grown_put w s j u) (.inr hv)
theorem own_below {w w' : World} {B : Nat} {e : TypeId} {v : Value} {n sz : Nat} {xs : List Value} (h : w.ownsRow B e sz v n xs) (hb : Below w.heap.size w w') : w'.ownsRow B e sz v n xs :=
  World.ownsRow.kept h (grown_below hb none) (by cases v.ownBlock <;> simp)
/-- what holds while told items are looked through: nothing old has turned, the agenda is as it is, the row of what was told, the flags -/
structure SInv (w wq : World) (Z : Int) (r : Option Nat) (R' : List It) (B0 : Nat) (v : Value) (X : List It) (S n : Nat) (f : Nat → Bool) : Prop where
  b : Below w.heap.size w wq
  g : Agd wq w.heap.size w.heap.size Z r R'
  o : wq.ownsRow B0 46 3 v X.length (cells X)
  f : Flg wq w.heap.size S n f
theorem SInv.below {w wq wq' : World} {Z : Int} {r : Option Nat} {R' : List It} {B0 : Nat} {v : Value} {X : List It} {S n : Nat} {f : Nat → Bool} (h : SInv w wq Z r R' B0 v X S n f) (hb : Below wq.heap.size wq wq') : SInv w wq' Z r R' B0 v X S n f :=
  ⟨h.b.trans (hb.mono h.b.size), h.g.below hb, own_below h.o hb, h.f.below hb⟩
theorem SInv.put {w wq : World} {Z : Int} {r : Option Nat} {R' : List It} {B0 : Nat} {v : Value} {X : List It} {S n : Nat} {f : Nat → Bool} (h : SInv w wq Z r R' B0 v X S n f) (j : Nat) (h1 : w.heap.size ≠ S) (h2 : some S ≠ r) (h3 : v.ownBlock ≠ some S) :
    SInv w (wq.setCell ⟨S, j, none⟩ (.bool true)) Z r R' B0 v X S n (fun q => q == j || f q) :=
  ⟨h.b.setCell (World.ownsRow.lt h.f S rfl).1 _, h.g.grown (grown_put wq S j _) (fun e => h1 (Option.some.inj e)) (.inr h2), own_put h.o h3, h.f.put j⟩
theorem ids_ne {X : List It} (h : X.Pairwise (fun x y => x.i ≠ y.i)) {p q : Nat} (hp : p < q) (hq : q < X.length) : X[p].i ≠ X[q].i := List.pairwise_iff_getElem.1 h p q (by omega) hq hp
theorem sorted_lt {X : List It} (h : Sorted X) {p q : Nat} (hp : p < q) (hq : q < X.length) : X[p].lt X[q] := List.pairwise_iff_getElem.1 h p q (by omega) hq hp
end Go.Proofs.Ytiklaaganiafjab
