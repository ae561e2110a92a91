/-
  net: WHAT Due GOES THROUGH: the letters that come, one by one.
-/
import Derived.Test.YtkdaifcnlobhkaaNsd
namespace Go.Proofs.Ytkdaifcnlobhkaa
open Go.RowKit
theorem own_ty {w : World} {B size n : Nat} {e : TypeId} {v : Value} {xs : List Value} (h : w.ownsRow B e size v n xs) : ∀ q, v.ownBlock = some q → B ≤ q ∧ ∃ c, Blk w q e c := by
  intro q hq
  rcases h.2 with ⟨rfl, _⟩ | ⟨g, cap, cur, rfl, hb, hg, _⟩
  · simp [Value.ownBlock] at hq
  · have : g = q := by simpa [Value.ownBlock] using hq
    subst this
    exact ⟨hb, cur, hg⟩
theorem Blk.ty {w : World} {g : Nat} {t t' : TypeId} {cs cs' : Array Value} (h : Blk w g t cs) (h' : Blk w g t' cs') : t = t' := by
  unfold Blk at h h'
  rw [h] at h'
  simp only [Option.some.injEq, Obj.cells.injEq] at h'
  exact h'.2.1
def cellsM (L : List Ask) : List Value := L.flatMap fun a => (askA a.f a.t a.m).toList
theorem cellsM_app (L K : List Ask) : cellsM (L ++ K) = cellsM L ++ cellsM K := by unfold cellsM; rw [List.flatMap_append]
theorem cellsM_one (a : Ask) : cellsM [a] = (askA a.f a.t a.m).toList := by unfold cellsM; simp
/-- the asks that come, but of those that are cut off -/
def selA (C : Int → Int → Bool) (G : Int → Ask) (X : List Ag.It) : List Ask := (X.map (fun x => G x.i)).filter (fun a => !C a.f a.t)
theorem selA_yes {C : Int → Int → Bool} {G : Int → Ask} {X : List Ag.It} {k : Nat} (hk : k < X.length) (h : C (G X[k].i).f (G X[k].i).t = false) : selA C G (X.take (k + 1)) = selA C G (X.take k) ++ [G X[k].i] := by
  unfold selA
  rw [List.take_succ_eq_append_getElem hk, List.map_append, List.filter_append]
  simp [h]
theorem selA_no {C : Int → Int → Bool} {G : Int → Ask} {X : List Ag.It} {k : Nat} (hk : k < X.length) (h : C (G X[k].i).f (G X[k].i).t = true) : selA C G (X.take (k + 1)) = selA C G (X.take k) := by
  unfold selA
  rw [List.take_succ_eq_append_getElem hk, List.map_append, List.filter_append]
  simp [h]
theorem selA_le (C : Int → Int → Bool) (G : Int → Ask) (X : List Ag.It) : (selA C G X).length ≤ X.length := by
  unfold selA
  exact Nat.le_trans (List.length_filter_le _ _) (by simp)
/-- Due, between two letters: kd have been taken out, ku looked at -/
structure DI (w0 w : World) (N : Nat) (Z : Int) (R' : List Ag.It) (G : Int → Ask) (C : Int → Int → Bool) (A : Nat) (r' : Option Nat) (M : Nat) (cs : Array Value) (X : List Ag.It) (v u : Value) (Q : Nat → Option Obj) (kd ku : Nat) (F : Lf) (wr : World) : Prop where
  p : NetP w0 N Z R' C A r' M F cs wr
  g : LetG R' G F
  d : LetG (X.drop kd) G F
  v : wr.ownsRow w.heap.size 87 3 v X.length (Ag.cells X)
  u : wr.ownsRow w.heap.size 35 13 u (selA C G (X.take ku)).length (cellsM (selA C G (X.take ku)))
  hN : N < w.heap.size
  hA : A < w.heap.size
  hM : M < w.heap.size
  hs : w.heap.size ≤ wr.heap.size
  q : OffQ N A M r' Q wr
  hQ : ∀ q o, Q q = some o → q < w.heap.size
section
variable {w0 w wr w' : World} {N A M : Nat} {Z : Int} {R' X : List Ag.It} {G : Int → Ask} {C : Int → Int → Bool} {r' : Option Nat} {F : Lf} {cs : Array Value} {v u : Value} {Q : Nat → Option Obj} {kd ku : Nat}
theorem DI.next (h : DI w0 w N Z R' G C A r' M cs X v u Q kd ku F wr) (b : Below wr.heap.size wr w') : DI w0 w N Z R' G C A r' M cs X v u Q kd ku F w' :=
  ⟨h.p.next b, h.g, h.d, Fr.own h.v (Fr.of_below b (fun _ => False)) (fun _ _ h => h), Fr.own h.u (Fr.of_below b (fun _ => False)) (fun _ _ h => h), h.hN, h.hA, h.hM, Nat.le_trans h.hs b.size, h.q.next b, h.hQ⟩
theorem DI.strike {F' : Lf} (h : DI w0 w N Z R' G C A r' M cs X v u Q kd ku F wr) (f : Fr wr w' (fun q => q = M)) (l : Lts w' M Z.toNat F') (hg : LetG R' G F') (hd : LetG (X.drop (kd + 1)) G F') : DI w0 w N Z R' G C A r' M cs X v u Q (kd + 1) ku F' w' :=
  ⟨h.p.lts f l (Nat.le_refl _), hg, hd, Fr.own h.v f (fun q hq e => by have := (own_ty h.v q hq).1; have := h.hM; omega), Fr.own h.u f (fun q hq e => by have := (own_ty h.u q hq).1; have := h.hM; omega), h.hN, h.hA, h.hM, Nat.le_trans h.hs f.size, h.q.map f, h.hQ⟩
theorem DI.skip (h : DI w0 w N Z R' G C A r' M cs X v u Q kd ku F wr) (hk : ku < X.length) (hC : C (G X[ku].i).f (G X[ku].i).t = true) : DI w0 w N Z R' G C A r' M cs X v u Q kd (ku + 1) F wr :=
  ⟨h.p, h.g, h.d, h.v, by rw [selA_no hk hC]; exact h.u, h.hN, h.hA, h.hM, h.hs, h.q, h.hQ⟩
theorem DI.app {u' : Value} (h : DI w0 w N Z R' G C A r' M cs X v u Q kd ku F wr) (hk : ku < X.length) (hC : C (G X[ku].i).f (G X[ku].i).t = false)
    (hown : w'.ownsRow w.heap.size 35 13 u' ((selA C G (X.take ku)).length + 1) (cellsM (selA C G (X.take ku)) ++ (askA (G X[ku].i).f (G X[ku].i).t (G X[ku].i).m).toList)) (f : Fr wr w' (fun q => u.ownBlock = some q)) : DI w0 w N Z R' G C A r' M cs X v u' Q kd (ku + 1) F w' := by
  have hu := own_ty h.u
  have lo : ∀ q, q < w.heap.size → u.ownBlock ≠ some q := fun q hq e => by have := (hu q e).1; omega
  have ty : ∀ {q t : Nat} {c : Array Value}, t ≠ 35 → Blk wr q t c → u.ownBlock ≠ some q := fun ht hk e => by
    obtain ⟨_, c2, k2⟩ := hu _ e
    exact ht (hk.ty k2)
  have p := h.p
  refine ⟨⟨p.k.fr f (lo N h.hN), p.k0, p.k1, p.kc, ?_, p.l.fr f (lo M h.hM), p.hN, p.hA, p.hM, p.nA, p.nM, p.mA, p.rN, p.rM, p.b.trans (f.below (fun q e => Nat.le_trans p.hN (Nat.le_trans (Nat.le_of_lt h.hN) (hu q e).1)) p.b.size), p.z⟩, h.g, h.d,
    Fr.own h.v f (fun q hq e => by obtain ⟨_, c, k⟩ := own_ty h.v q hq; exact ty (by decide) k e), ?_, h.hN, h.hA, h.hM, Nat.le_trans h.hs f.size, h.q.fr f (fun q o e => lo q (h.hQ q o e)), h.hQ⟩
  · obtain ⟨v2, l, h1, h2, h3⟩ := p.a
    refine ⟨v2, l, h1, ⟨(f.block A h2.lt (lo A h.hA)).trans h2.blk, Fr.own h2.own f (fun q hq e => by obtain ⟨_, c, k⟩ := own_ty h2.own q hq; exact ty (by decide) k e), h2.small⟩, h3⟩
  · rw [selA_yes hk hC, cellsM_app, cellsM_one, List.length_append]
    exact hown
end
/-- the ids of what is under way are apart -/
theorem agd_apart {w : World} {B A : Nat} {Z : Int} {r : Option Nat} {R : List Ag.It} (h : Ag.Agd w B A Z r R) : R.Pairwise (fun x y => x.i ≠ y.i) ∧ ∀ x ∈ R, 1 ≤ x.i ∧ x.i ≤ Z := by
  obtain ⟨_, _, _, _, _, _, _, hi, hd⟩ := h
  exact ⟨hd, hi⟩
theorem let_drop {X R' : List Ag.It} {G : Int → Ask} {F : Lf} {k : Nat} (hk : k < X.length) (hp : (X ++ R').Pairwise (fun x y => x.i ≠ y.i)) (hg : LetG R' G F) (hd : LetG (X.drop k) G F) :
    LetG R' G (upd F X[k].i none) ∧ LetG (X.drop (k + 1)) G (upd F X[k].i none) ∧ (F X[k].i = some (askS (G X[k].i).f (G X[k].i).t (G X[k].i).m) ∧ OkA (G X[k].i)) := by
  obtain ⟨h1, h2, h3⟩ := List.pairwise_append.1 hp
  have e := List.drop_eq_getElem_cons hk
  rw [e] at hd
  refine ⟨fun x hx => ?_, fun x hx => ?_, hd _ (List.mem_cons_self ..)⟩
  · have hne : x.i ≠ X[k].i := fun q => h3 X[k] (List.getElem_mem hk) x hx q.symm
    rw [upd_other _ _ hne]
    exact hg x hx
  · have hp2 : (X.drop k).Pairwise (fun x y => x.i ≠ y.i) := List.Pairwise.drop h1
    rw [e] at hp2
    have hne : x.i ≠ X[k].i := fun q => List.rel_of_pairwise_cons hp2 hx q.symm
    rw [upd_other _ _ hne]
    exact hd x (List.mem_cons_of_mem _ hx)
theorem info35 : (Try.prog.info? 35).map (fun i => (i.zero, i.size, i.bytes)) = some (some (.agg zerA), 13, 128) := by kernel_rfl
end Go.Proofs.Ytkdaifcnlobhkaa
