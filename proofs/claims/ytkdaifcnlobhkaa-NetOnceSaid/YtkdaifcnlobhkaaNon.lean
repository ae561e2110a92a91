/-
  NetOnce: what it goes through, plainly.
-/
import Derived.Test.YtkdaifcnlobhkaaNof
namespace Go.Proofs.Ytkdaifcnlobhkaa
open Go.RowKit
theorem rng_get {α : Type} (g : Nat → α) (n i : Nat) (h : i < n) : ((List.range n).map g).toArray[i]? = some (g i) := by
  simp [h]
/-- when each is to come, of the first k -/
def atA (D : Nat → Int) (n k : Nat) : Array Value := ((List.range (n + 1)).map fun i => Value.int .i64 (if i = 0 ∨ k < i then 0 else D i)).toArray
/-- which came -/
def cmA (f : Nat → Bool) (n : Nat) : Array Value := ((List.range (n + 1)).map fun i => Value.bool (f i)).toArray
theorem atA_get {D : Nat → Int} {n k i : Nat} (h : i ≤ n) : (atA D n k)[i]? = some (.int .i64 (if i = 0 ∨ k < i then 0 else D i)) := rng_get _ _ _ (by omega)
theorem cmA_get {f : Nat → Bool} {n i : Nat} (h : i ≤ n) : (cmA f n)[i]? = some (.bool (f i)) := rng_get _ _ _ (by omega)
theorem atA_size (D : Nat → Int) (n k : Nat) : (atA D n k).size = n + 1 := by unfold atA; simp
theorem cmA_size (f : Nat → Bool) (n : Nat) : (cmA f n).size = n + 1 := by unfold cmA; simp
theorem arr_ext {a b : Array Value} {m : Nat} (ha : a.size = m) (hb : b.size = m) (h : ∀ i, i < m → a[i]? = b[i]?) : a = b := by
  apply Array.ext
  · rw [ha, hb]
  · intro i h1 h2
    have := h i (by omega)
    rw [Array.getElem?_eq_getElem h1, Array.getElem?_eq_getElem h2] at this
    exact Option.some.inj this
theorem atA_set {D : Nat → Int} {n k : Nat} : (atA D n k).setIfInBounds (k + 1) (.int .i64 (D (k + 1))) = atA D n (k + 1) := by
  refine arr_ext (m := n + 1) (by rw [Array.size_setIfInBounds, atA_size]) (atA_size _ _ _) (fun i hi => ?_)
  rw [Array.getElem?_setIfInBounds, atA_get (by omega), atA_get (by omega), atA_size]
  by_cases e : k + 1 = i
  · subst e
    rw [if_pos rfl, if_pos (by omega), if_neg (by omega)]
  · rw [if_neg e]
    by_cases h0 : i = 0 ∨ k < i
    · rw [if_pos h0, if_pos (by omega)]
    · rw [if_neg h0, if_neg (by omega)]
theorem cmA_set {f : Nat → Bool} {n i : Nat} : (cmA f n).setIfInBounds i (.bool true) = cmA (fun j => if j = i then true else f j) n := by
  refine arr_ext (m := n + 1) (by rw [Array.size_setIfInBounds, cmA_size]) (cmA_size _ _) (fun j hj => ?_)
  rw [Array.getElem?_setIfInBounds, cmA_get (by omega), cmA_get (by omega), cmA_size]
  by_cases e : i = j
  · subst e
    rw [if_pos rfl, if_pos (by omega), if_pos rfl]
  · rw [if_neg e, if_neg (fun h => e h.symm)]
theorem at_made (D : Nat → Int) (n : Nat) : madeCells (Value.int .i64 0).cells ((n + 1) * 1) = atA D n 0 := by
  refine arr_ext (m := n + 1) (by simp [madeCells, Value.cells]) (atA_size _ _ _) (fun i hi => ?_)
  rw [atA_get (by omega), if_pos (by omega)]
  simp [madeCells, Value.cells, hi, Nat.mod_one]
theorem cm_made (n : Nat) : madeCells (Value.bool false).cells ((n + 1) * 1) = cmA (fun _ => false) n := by
  refine arr_ext (m := n + 1) (by simp [madeCells, Value.cells]) (cmA_size _ _) (fun i hi => ?_)
  rw [cmA_get (by omega)]
  simp [madeCells, Value.cells, hi, Nat.mod_one]
/-! ### what is under way -/
/-- each who is there was sent; who did not come is still there -/
structure OInv (D : Nat → Int) (n : Nat) (f : Nat → Bool) (R : List Ag.It) : Prop where
  here : ∀ id : Nat, 1 ≤ id → id ≤ n → (f id = false ↔ ∃ x ∈ R, x.i = (id : Int))
  sent : ∀ x ∈ R, ∃ id : Nat, 1 ≤ id ∧ id ≤ n ∧ x.t = D id ∧ x.i = (id : Int)
theorem oinv_put {D : Nat → Int} {k : Nat} {R : List Ag.It} {t : Int} (h : OInv D k (fun _ => false) R) (ht : t = D (k + 1)) : OInv D (k + 1) (fun _ => false) (Ag.ins ⟨t, (k : Int) + 1, 0⟩ R) := by
  have hm := fun x => (Ag.ins_perm (⟨t, (k : Int) + 1, 0⟩ : Ag.It) R).mem_iff (a := x)
  refine ⟨fun id h1 h2 => ⟨fun _ => ?_, fun _ => rfl⟩, fun x hx => ?_⟩
  · by_cases e : id = k + 1
    · exact ⟨⟨t, (k : Int) + 1, 0⟩, (hm _).2 (List.mem_cons_self ..), by rw [e]; rfl⟩
    · obtain ⟨x, hx, e2⟩ := (h.here id h1 (by omega)).1 rfl
      exact ⟨x, (hm _).2 (List.mem_cons_of_mem _ hx), e2⟩
  · rcases List.mem_cons.1 ((hm _).1 hx) with rfl | hx
    · exact ⟨k + 1, by omega, Nat.le_refl _, ht, rfl⟩
    · obtain ⟨id, h1, h2, h3, h4⟩ := h.sent x hx
      exact ⟨id, h1, by omega, h3, h4⟩
/-- flags while the due ones are looked through -/
def MInv (f f' : Nat → Bool) (X : List Ag.It) (p : Nat) : Prop := ∀ j : Nat, f' j = true ↔ f j = true ∨ ∃ x ∈ X.take p, x.i = (j : Int)
theorem minv_start (f : Nat → Bool) (X : List Ag.It) : MInv f f X 0 := fun j => ⟨.inl, fun h => h.elim (fun h => h) (fun ⟨x, hx, _⟩ => by simp at hx)⟩
theorem minv_next {f f' : Nat → Bool} {X : List Ag.It} {p id : Nat} (h : MInv f f' X p) (hp : p < X.length) (hi : X[p].i = (id : Int)) : MInv f (fun j => if j = id then true else f' j) X (p + 1) := fun j => by
  rw [List.take_succ_eq_append_getElem hp]
  have hj := h j
  show (if j = id then true else f' j) = true ↔ _
  by_cases e : j = id
  · subst e
    rw [if_pos rfl]
    exact ⟨fun _ => .inr ⟨X[p], List.mem_append_right _ (List.mem_singleton_self _), hi⟩, fun _ => rfl⟩
  · rw [if_neg e, hj]
    constructor
    · rintro (h | ⟨x, hx, e2⟩)
      · exact .inl h
      · exact .inr ⟨x, List.mem_append_left _ hx, e2⟩
    · rintro (h | ⟨x, hx, e2⟩)
      · exact .inl h
      · rcases List.mem_append.1 hx with hx | hx
        · exact .inr ⟨x, hx, e2⟩
        · rw [List.mem_singleton.1 hx, hi] at e2
          omega
/-- who is next did not come yet -/
theorem minv_no {D : Nat → Int} {n : Nat} {f f' : Nat → Bool} {X R' : List Ag.It} {p id : Nat} (h : MInv f f' X p) (hp : p < X.length) (hi : X[p].i = (id : Int)) (ho : OInv D n f (X ++ R')) (hd : (X ++ R').Pairwise (fun x y => x.i ≠ y.i)) (h1 : 1 ≤ id) (h2 : id ≤ n) : f' id = false := by
  rw [← Bool.not_eq_true]
  intro hf
  rcases (h id).1 hf with hf | ⟨x, hx, e⟩
  · have := (ho.here id h1 h2).2 ⟨X[p], List.mem_append_left _ (List.getElem_mem hp), hi⟩
    rw [hf] at this; cases this
  · obtain ⟨q, hq, e2⟩ := List.getElem_of_mem hx
    rw [List.length_take] at hq
    rw [List.getElem_take] at e2
    have hd1 := (List.pairwise_append.1 hd).1
    have := List.pairwise_iff_getElem.1 hd1 q p (by omega) hp (by omega)
    rw [e2, e, hi] at this
    exact this rfl
theorem oinv_next {D : Nat → Int} {n : Nat} {f f' : Nat → Bool} {X R' : List Ag.It} (h : OInv D n f (X ++ R')) (hd : (X ++ R').Pairwise (fun x y => x.i ≠ y.i)) (hm : MInv f f' X X.length) : OInv D n f' R' := by
  refine ⟨fun id h1 h2 => ?_, fun x hx => h.sent x (List.mem_append_right _ hx)⟩
  have g1 := h.here id h1 h2
  have g2 := hm id
  rw [List.take_length] at g2
  constructor
  · intro hf
    have hnf : ¬ f id = true := fun e => by have := g2.2 (.inl e); rw [hf] at this; cases this
    obtain ⟨x, hx, e⟩ := g1.1 (by simpa using hnf)
    rcases List.mem_append.1 hx with hx | hx
    · have := g2.2 (.inr ⟨x, hx, e⟩)
      rw [hf] at this; cases this
    · exact ⟨x, hx, e⟩
  · rintro ⟨x, hx, e⟩
    rw [← Bool.not_eq_true]
    intro hf
    rcases g2.1 hf with hf | ⟨y, hy, e2⟩
    · have := g1.2 ⟨x, List.mem_append_right _ hx, e⟩
      rw [hf] at this; cases this
    · exact (List.pairwise_append.1 hd).2.2 y hy x hx (by rw [e2, e])
/-- who is asked by whom -/
def gO (i : Int) : Ask := ⟨(i - 1) % 7, i % 7, i⟩
theorem gO_put (k : Nat) : (fun i : Int => if i = (k : Int) + 1 then (⟨(k : Int) % 7, ((k : Int) + 1) % 7, (k : Int) + 1⟩ : Ask) else gO i) = gO := by
  funext i
  by_cases h : i = (k : Int) + 1
  · rw [if_pos h, h]
    unfold gO
    rw [show (k : Int) + 1 - 1 = k by omega]
  · rw [if_neg h]
theorem selA_noC (G : Int → Ask) (X : List Ag.It) : selA noC G X = X.map (fun x => G x.i) := by
  unfold selA
  exact List.filter_eq_self.2 (fun a _ => rfl)
theorem updQ_twice (Q : Nat → Option Obj) (T : Nat) (a b : Obj) : updQ (updQ Q T a) T b = updQ Q T b := by
  funext q
  unfold updQ
  split <;> rfl
theorem updQ_same (Q : Nat → Option Obj) (T : Nat) (a : Obj) : updQ Q T a T = some a := by unfold updQ; rw [if_pos rfl]
theorem updQ_other (Q : Nat → Option Obj) {T S : Nat} (a : Obj) (h : S ≠ T) : updQ Q T a S = Q S := by unfold updQ; rw [if_neg h]
theorem net_facts {w0 w : World} {N : Nat} {Z : Int} {R : List Ag.It} {G : Int → Ask} {C : Int → Int → Bool} {Q : Nat → Option Obj} (h : NetQ w0 N Z R G C Q w) : Ag.Sorted R ∧ R.Pairwise (fun x y => x.i ≠ y.i) := by
  obtain ⟨A, r, M, F, cs, h, _, _⟩ := h
  obtain ⟨_, _, _, _, _, _, hs, _, hd⟩ := h.a
  exact ⟨hs, hd⟩
end Go.Proofs.Ytkdaifcnlobhkaa
