/-
  THE LAW OF SessPlays: what is at hand while it is told.
-/
import Derived.Test.YtkaocpfkigdpoaaRtx
import Derived.Test.YtkaocpfkigdpoaaRed2
import Derived.Test.YtkaocpfkigdpoaaAwk
import Derived.Test.YtkaocpfkigdpoaaOpn
namespace Go.Proofs.Ytkaocpfkigdpoaa
open Go.RowKit
/-- the table, the document's table in its box -/
structure Pl (w0 w : World) (T B : Nat) (L R : List Sn) (v u : Value) : Prop where
  tab : Tab w T v L
  ok : Okt L
  okr : Okt R
  blk : Blk w B 27 #[u]
  ses : Ses w u R
  hu : ∀ q, u.ownBlock = some q → q ≠ T ∧ v.ownBlock ≠ some q ∧ q ≠ B ∧ q < w.heap.size
  ne : B ≠ T
  nv : v.ownBlock ≠ some B
  hT : w0.heap.size ≤ T
  hB : w0.heap.size ≤ B
  bel : Below w0.heap.size w0 w
theorem Pl.next {w0 w w' : World} {T B : Nat} {L R : List Sn} {v u : Value} (h : Pl w0 w T B L R v u) (b : Below w.heap.size w w') : Pl w0 w' T B L R v u :=
  ⟨h.tab.next b, h.ok, h.okr, h.blk.next b, h.ses.next b, fun q hq => by obtain ⟨a1, a2, a3, a4⟩ := h.hu q hq; exact ⟨a1, a2, a3, Nat.lt_of_lt_of_le a4 b.size⟩, h.ne, h.nv, h.hT, h.hB, h.bel.trans (b.mono h.bel.size)⟩
theorem Ses.fr' {w w' : World} {P : Nat → Prop} {u : Value} {R : List Sn} (h : Ses w u R) (f : Fr w w' P) (hP : ∀ q, u.ownBlock = some q → ¬ P q) : Ses w' u R := by
  obtain ⟨a, c, rfl, g⟩ := h
  refine ⟨a, c, rfl, fun p hp => ?_⟩
  obtain ⟨b, o, e, hb, c1, c2⟩ := g p hp
  have k := f.block b hb (hP b (by rw [e]; rfl))
  exact ⟨b, o, e, Nat.lt_of_lt_of_le hb f.size, by rw [World.cell?_of_block k]; exact c1, by rw [World.cell?_of_block k]; exact c2⟩
/-- the document's table is stored -/
theorem Pl.ref {w0 w w1 : World} {T B : Nat} {L R R' : List Sn} {v u u' : Value} (h : Pl w0 w T B L R v u) (s : Ses w1 u' R') (b : Below w.heap.size w w1) (n : New w u u' w1) (ok : Okt R') : Pl w0 (w1.setCell ⟨B, 0, none⟩ u') T B L R' v u' := by
  have h1 := h.next b
  have f := fr_set w1 B 0 u'
  have hu' : ∀ q, u'.ownBlock = some q → q ≠ T ∧ v.ownBlock ≠ some q ∧ q ≠ B ∧ q < w1.heap.size := by
    intro q hq
    rcases n with rfl | n
    · exact h1.hu q hq
    · obtain ⟨a, c⟩ := n q hq
      have t1 := h.tab.blk.lt
      have t2 := h.blk.lt
      refine ⟨by omega, fun e => ?_, by omega, c⟩
      have := (own_ne h.tab.own q e).2
      omega
  exact ⟨h1.tab.fr f (fun e => h.ne e.symm) (fun q hq e => h.nv (by rw [hq, e])), h.ok, ok, h1.blk.set 0 u', s.fr' f (fun q hq e => (hu' q hq).2.2.1 e), fun q hq => by obtain ⟨a1, a2, a3, a4⟩ := hu' q hq; exact ⟨a1, a2, a3, by rw [World.size_setCell]; exact a4⟩, h.ne, h.nv, h.hT, h.hB, h1.bel.trans (f.below (fun q e => by have := h.hB; omega) h1.bel.size)⟩
/-- the table is changed -/
theorem Pl.tch {w0 w w' : World} {T B : Nat} {L L' R : List Sn} {v u : Value} (h : Pl w0 w T B L R v u) (c : Tch w T v L' w') (ok : Okt L') : ∃ v', Pl w0 w' T B L' R v' u ∧ Fr w w' (Foot T v) ∧ (v'.ownBlock = v.ownBlock ∨ ∀ q, v'.ownBlock = some q → w.heap.size ≤ q) := by
  have bel := c.bel h.tab h.hT
  obtain ⟨v', T', f, n⟩ := c
  have nB : ¬ Foot T v B := by
    rintro (e | e)
    · exact h.ne e
    · exact h.nv e
  have nu : ∀ q, u.ownBlock = some q → ¬ Foot T v q := by
    rintro q hq (e | e)
    · exact (h.hu q hq).1 e
    · exact (h.hu q hq).2.1 e
  refine ⟨v', ⟨T', ok, h.okr, h.blk.fr f nB, h.ses.fr' f nu, fun q hq => ?_, h.ne, ?_, h.hT, h.hB, h.bel.trans bel⟩, f, n⟩
  · obtain ⟨a1, a2, a3, a4⟩ := h.hu q hq
    refine ⟨a1, fun e => ?_, a3, Nat.lt_of_lt_of_le a4 f.size⟩
    rcases n with n | n
    · exact a2 (by rw [← n]; exact e)
    · have := n q e; omega
  · intro e
    rcases n with n | n
    · exact h.nv (by rw [← n]; exact e)
    · have := n B e
      have := h.blk.lt
      omega
/-- another table is taken -/
theorem Pl.new {w0 w w' : World} {T T' B : Nat} {L R : List Sn} {v v' u : Value} (h : Pl w0 w T B L R v u) (t : Tab w' T' v' L) (b : Below w.heap.size w w') (hT : w.heap.size ≤ T') : Pl w0 w' T' B L R v' u := by
  have h1 := h.next b
  have hb := h.blk.lt
  refine ⟨t, h.ok, h.okr, h1.blk, h1.ses, fun q hq => ?_, by omega, fun e => ?_, Nat.le_trans h.bel.size hT, h.hB, h1.bel⟩
  · obtain ⟨a1, a2, a3, a4⟩ := h.hu q hq
    refine ⟨by omega, fun e => ?_, a3, Nat.lt_of_lt_of_le a4 b.size⟩
    have := (own_ne t.own q e).1
    omega
  · have := (own_ne t.own B e).1
    omega
/-- .. and the act in its box -/
structure Px (w0 w : World) (T B : Nat) (L R : List Sn) (v u : Value) (X : Nat) (x : It) : Prop where
  pl : Pl w0 w T B L R v u
  xb : Blk w X 30 #[.int .i64 x.t, .int .i64 x.i, .int .i64 x.x]
  xT : X ≠ T
  xB : X ≠ B
  xv : v.ownBlock ≠ some X
theorem Px.next {w0 w w' : World} {T B : Nat} {L R : List Sn} {v u : Value} {X : Nat} {x : It} (h : Px w0 w T B L R v u X x) (b : Below w.heap.size w w') : Px w0 w' T B L R v u X x := ⟨h.pl.next b, h.xb.next b, h.xT, h.xB, h.xv⟩
theorem Px.ref {w0 w w1 : World} {T B : Nat} {L R R' : List Sn} {v u u' : Value} {X : Nat} {x : It} (h : Px w0 w T B L R v u X x) (s : Ses w1 u' R') (b : Below w.heap.size w w1) (n : New w u u' w1) (ok : Okt R') : Px w0 (w1.setCell ⟨B, 0, none⟩ u') T B L R' v u' X x :=
  ⟨h.pl.ref s b n ok, (h.xb.next b).fr (fr_set w1 B 0 u') h.xB, h.xT, h.xB, h.xv⟩
theorem Px.tch {w0 w : World} {T B : Nat} {L L' R : List Sn} {v u : Value} {X : Nat} {x : It} {r : Value} {f : FuncId} {args : Array Value} (h : Px w0 w T B L R v u X x) (hc : Calls Try.prog f args w (Res w T v L' r)) (ok : Okt L') : Calls Try.prog f args w fun e w' => ∃ v', e = .returned r ∧ Px w0 w' T B L' R v' u X x := by
  refine hc.mono ?_
  rintro e w' ⟨he, c⟩
  obtain ⟨v', p, fr, n⟩ := h.pl.tch c ok
  refine ⟨v', he, p, h.xb.fr fr ?_, h.xT, h.xB, fun e => ?_⟩
  · rintro (e | e)
    · exact h.xT e
    · exact h.xv e
  · rcases n with n | n
    · exact h.xv (by rw [← n]; exact e)
    · have := n X e
      have := h.xb.lt
      omega
theorem pl_new (w w1 : World) (T1 : Tab w1 w.heap.size (.slice none 0 0) []) (b1 : Below w.heap.size w w1) : Pl w (w1.alloc (.cells #[.slice none 0 0] 27)) w.heap.size w1.heap.size [] [] (.slice none 0 0) (.slice none 0 0) := by
  have ba := (Below.refl w1.heap.size w1).alloc (Nat.le_refl _) (.cells #[.slice none 0 0] 27)
  have h1 := T1.blk.lt
  exact ⟨T1.next ba, okt_nil, okt_nil, Blk.new _ _ _, ses_nil _, (fun q hq => by cases hq), by omega, (fun e => by cases e), Nat.le_refl _, b1.size, b1.trans (ba.mono b1.size)⟩
end Go.Proofs.Ytkaocpfkigdpoaa
