/-
  WHAT THE ROWS REST ON, part 7: Tlm Tls Tla Open Ope Opr Opa Opw Chk4.
-/
import Derived.Deep.Slices
import Derived.Deep.Fields
import Derived.ChangeSame
import Derived.Lib.SmallJoins
import Derived.ChangeSlices
import Derived.SizedLaws
import Derived.Test.YtbghjcfepjbppaaPart6
/-
  A TELLER IN MEMORY: what waits, what was refused; what its calls leave.
-/
namespace Go.Proofs.Ytbghjcfepjbppaa
open Go.RowKit
structure TlA (w : World) (U : Nat → Prop) (t : Nat) (nodes to id sq : Int) (LW LR : List EvD) (wv rv : Value) (cs rs : List Value) : Prop where
  blk : Blk w t 98 (tel nodes to id sq wv rv)
  we : EvA (t + 1) w LW wv cs
  re : EvA (t + 1) w LR rv rs
  ne : ∀ q, rv.ownBlock = some q → wv.ownBlock ≠ some q
  wo : FOff LW cs (fun q => rv.ownBlock = some q)
  ro : FOff LR rs (fun q => wv.ownBlock = some q)
  ut : U t
  uw : ∀ q, wv.ownBlock = some q → U q
  ur : ∀ q, rv.ownBlock = some q → U q
  fw : FOff LW cs (fun q => ¬ U q)
  fr : FOff LR rs (fun q => ¬ U q)
  ul : ∀ q, U q → q < w.heap.size
def TlM (w : World) (U : Nat → Prop) (t : Nat) (nodes to id sq : Int) (LW LR : List EvD) : Prop := ∃ wv rv cs rs, TlA w U t nodes to id sq LW LR wv rv cs rs
/-- what a call that changes the teller leaves -/
def Tch (w : World) (U : Nat → Prop) (t : Nat) (nodes to id sq : Int) (LW LR : List EvD) (w' : World) : Prop :=
  ∃ U', TlM w' U' t nodes to id sq LW LR ∧ Fr w w' U ∧ (∀ q, U' q → U q ∨ w.heap.size ≤ q)
section
variable {w w' : World} {U : Nat → Prop} {t : Nat} {nodes to id sq : Int} {LW LR : List EvD} {wv rv : Value} {cs rs : List Value}
theorem FOff.mono {LE : List EvD} {cs : List Value} {P Q : Nat → Prop} (h : FOff LE cs P) (hPQ : ∀ q, Q q → P q) : FOff LE cs Q := fun i hi q cp e p hp hq => h i hi q cp e p hp (hPQ _ hq)
theorem FOff.or {LE : List EvD} {cs : List Value} {P Q : Nat → Prop} (h : FOff LE cs P) (k : FOff LE cs Q) : FOff LE cs (fun q => P q ∨ Q q) := fun i hi q cp e p hp hq => hq.elim (h i hi q cp e p hp) (k i hi q cp e p hp)
/-- a field's block is above t -/
theorem EvA.above {B : Nat} {LE : List EvD} {gv : Value} (h : EvA B w LE gv cs) : FOff LE cs (fun q => q < B ∨ w.heap.size ≤ q ∨ gv.ownBlock = some q) := fun i hi q cp e p hp hq => by
  obtain ⟨q', cp', e', nn, hb⟩ := h.gc i hi
  have e4 := e 4 (by decide)
  have e4' := e' 4 (by decide)
  rw [e4'] at e4
  have hx : Value.slice q' LE[i].L.length cp' = Value.slice q LE[i].L.length cp := by
    have : some (Value.slice q' LE[i].L.length cp') = some (Value.slice q LE[i].L.length cp) := e4
    exact Option.some.inj this
  cases hx
  obtain ⟨h1, h2, h3⟩ := hb p hp
  rcases hq with hq | hq | hq
  · omega
  · omega
  · exact h3 hq
/-- blocks off the teller change -/
theorem TlA.off {P : Nat → Prop} (h : TlA w U t nodes to id sq LW LR wv rv cs rs) (f : Fr w w' P) (hP : ∀ q, P q → ¬ U q) : TlA w' U t nodes to id sq LW LR wv rv cs rs where
  blk := h.blk.fr f (fun e => hP _ e h.ut)
  we := h.we.fr f (fun q hq e => hP q hq (h.uw q e)) (FOff.mono (Q := P) h.fw hP)
  re := h.re.fr f (fun q hq e => hP q hq (h.ur q e)) (FOff.mono (Q := P) h.fr hP)
  ne := h.ne
  wo := h.wo
  ro := h.ro
  ut := h.ut
  uw := h.uw
  ur := h.ur
  fw := h.fw
  fr := h.fr
  ul := fun q hq => Nat.lt_of_lt_of_le (h.ul q hq) f.size
theorem TlM.off {P : Nat → Prop} (h : TlM w U t nodes to id sq LW LR) (f : Fr w w' P) (hP : ∀ q, P q → ¬ U q) : TlM w' U t nodes to id sq LW LR := by
  obtain ⟨wv, rv, cs, rs, k⟩ := h
  exact ⟨wv, rv, cs, rs, k.off f hP⟩
theorem TlM.next (h : TlM w U t nodes to id sq LW LR) (b : Below w.heap.size w w') : TlM w' U t nodes to id sq LW LR := h.off (Fr.of_below b (fun _ => False)) (fun _ h => h.elim)
theorem TlM.ul (h : TlM w U t nodes to id sq LW LR) : ∀ q, U q → q < w.heap.size := by
  obtain ⟨wv, rv, cs, rs, k⟩ := h
  exact k.ul
theorem TlM.ut (h : TlM w U t nodes to id sq LW LR) : U t := by
  obtain ⟨wv, rv, cs, rs, k⟩ := h
  exact k.ut
theorem TlM.same (h : TlM w U t nodes to id sq LW LR) (b : Below w.heap.size w w') : Tch w U t nodes to id sq LW LR w' := ⟨U, h.next b, Fr.of_below b _, fun _ hq => .inl hq⟩
theorem EvA.frT {LE : List EvD} {gv : Value} (h : EvA (t + 1) w LE gv cs) (f : Fr w w' (fun q => q = t)) : EvA (t + 1) w' LE gv cs :=
  h.fr (P := fun q => q = t) f (fun q hq e => by subst hq; have := (World.ownsRow.lt h.own _ e).1; omega) (h.above.mono (Q := fun q => q = t) (fun q hq => .inl (by omega)))
/-- the teller's own cells change -/
theorem TlA.box {to' id' sq' : Int} (h : TlA w U t nodes to id sq LW LR wv rv cs rs) (T : Blk w' t 98 (tel nodes to' id' sq' wv rv)) (f : Fr w w' (fun q => q = t)) : TlA w' U t nodes to' id' sq' LW LR wv rv cs rs where
  blk := T
  we := h.we.frT f
  re := h.re.frT f
  ne := h.ne
  wo := h.wo
  ro := h.ro
  ut := h.ut
  uw := h.uw
  ur := h.ur
  fw := h.fw
  fr := h.fr
  ul := fun q hq => Nat.lt_of_lt_of_le (h.ul q hq) f.size
theorem TlA.boxC {to' id' sq' : Int} (h : TlA w U t nodes to id sq LW LR wv rv cs rs) (T : Blk w' t 98 (tel nodes to' id' sq' wv rv)) (f : Fr w w' (fun q => q = t)) : Tch w U t nodes to' id' sq' LW LR w' :=
  ⟨U, ⟨wv, rv, cs, rs, h.box T f⟩, f.mono (fun _ _ e => e ▸ h.ut), fun _ hq => .inl hq⟩
theorem Tch.below {X : World} (b : Below w.heap.size w X) (h : Tch X U t nodes to id sq LW LR w') : Tch w U t nodes to id sq LW LR w' := by
  obtain ⟨U', k, f, u⟩ := h
  refine ⟨U', k, (Fr.of_below b U).trans f (fun _ _ h => h) (fun _ _ h => h), fun q hq => (u q hq).imp (fun h => h) (fun h => Nat.le_trans b.size h)⟩
theorem cells_at {LE : List EvD} {i : Nat} {hi : i < LE.length} {q : Option Addr} {cp : Nat} (e : ∀ j, j < 5 → cs[i * 5 + j]? = (LE[i].cells q cp)[j]?) {q' : Option Addr} {cp' : Nat} (e' : ∀ j, j < 5 → cs[i * 5 + j]? = (LE[i].cells q' cp')[j]?) : q' = q := by
  have e4 := e 4 (by decide)
  rw [e' 4 (by decide)] at e4
  have hx : Value.slice q' LE[i].L.length cp' = Value.slice q LE[i].L.length cp := by
    have : some (Value.slice q' LE[i].L.length cp') = some (Value.slice q LE[i].L.length cp) := e4
    exact Option.some.inj this
  cases hx; rfl
/-- an event is added -/
theorem TlA.add {a b c : Int} {k : ByteArray} {L : List Fld} {e : Ending} (h : TlA w U t nodes to id sq LW LR wv rv cs rs) (A : AddR w t (t + 1) nodes to id sq wv LW.length cs rv a b c k L e w') :
    e = .returned (.int .i64 0) ∧ Tch w U t nodes to id sq (LW ++ [⟨a, b, c, k, L⟩]) LR w' := by
  have hlt := h.blk.lt
  obtain ⟨he, g, cap, p, cp, T', E', f, hat, hp⟩ := h.we.add (Nat.lt_succ_self t) (by omega) A
  have hcl : cs.length = LW.length * 5 := h.we.own.1
  have hln : (LW ++ [(⟨a, b, c, k, L⟩ : EvD)]).length = LW.length + 1 := by simp
  have hgv : (Value.slice (some ⟨g, 0, none⟩) (LW ++ [(⟨a, b, c, k, L⟩ : EvD)]).length cap).ownBlock = some g := rfl
  have hgt := World.ownsRow.lt E'.own g rfl
  have RL := fun q hq => World.ownsRow.lt h.re.own q hq
  have new : ∀ q, (Value.slice (some ⟨g, 0, none⟩) (LW ++ [(⟨a, b, c, k, L⟩ : EvD)]).length cap).ownBlock = some q → wv.ownBlock = some q ∨ w.heap.size ≤ q := fun q hq => by
    rw [hgv] at hq
    cases hq
    exact hat
  refine ⟨he, (fun q => U q ∨ (w.heap.size ≤ q ∧ q < w'.heap.size)), ⟨.slice (some ⟨g, 0, none⟩) (LW ++ [(⟨a, b, c, k, L⟩ : EvD)]).length cap, rv, cs ++ encE a b c k (.slice p L.length cp), rs, ?_⟩, f.mono (fun q _ hq => hq.elim (fun e => e ▸ h.ut) (h.uw q)), fun q hq => hq.imp (fun h => h) (fun h => h.1)⟩
  have R' : EvA (t + 1) w' LR rv rs := h.re.fr f (fun q hq e => by
      rcases hq with hq | hq
      · subst hq; have := (RL _ e).1; omega
      · exact h.ne q e hq) (by
        have := (h.re.above.mono (Q := fun q => q = t) (fun q hq => .inl (by omega))).or h.ro
        exact this)
  have FN : ∀ (P : Nat → Prop), FOff LW cs P → (∀ q, w.heap.size ≤ q → q < w'.heap.size → ¬ P q) → FOff (LW ++ [⟨a, b, c, k, L⟩]) (cs ++ encE a b c k (.slice p L.length cp)) P := by
    intro P hF hP i hi q cq e ad had
    rw [hln] at hi
    rcases Nat.lt_or_ge i LW.length with h1 | h1
    · refine hF i h1 q cq (fun j hj => ?_) ad had
      have := e j hj
      rw [List.getElem?_append_left (by omega)] at this
      rw [this, List.getElem_append_left h1]
    · obtain rfl : i = LW.length := by omega
      obtain ⟨q', cq', e', nn, hb⟩ := E'.gc LW.length (by omega)
      have hq := cells_at e e'
      subst hq
      have e4 := e 4 (by decide)
      rw [List.getElem?_append_right (by omega), show LW.length * 5 + 4 - cs.length = 4 by omega] at e4
      have hx : Value.slice p L.length cp = Value.slice q' (LW ++ [(⟨a, b, c, k, L⟩ : EvD)])[LW.length].L.length cq := by
        have : some (Value.slice p L.length cp) = some (Value.slice q' (LW ++ [(⟨a, b, c, k, L⟩ : EvD)])[LW.length].L.length cq) := e4
        exact Option.some.inj this
      have hpq : p = q' := (Value.slice.inj hx).1
      exact hP _ (hp ad (by rw [hpq]; exact had)) (hb ad had).2.1
  exact
    { blk := T', we := E', re := R'
      ne := fun q hq e => by
        rcases new q e with h1 | h1
        · exact h.ne q hq h1
        · have := (RL q hq).2; omega
      wo := FN _ h.wo (fun q hq _ e => by have := (RL q e).2; omega)
      ro := by
        intro i hi q cq e ad had hh
        rcases new _ hh with h1 | h1
        · exact h.ro i hi q cq e ad had h1
        · exact h.re.above i hi q cq e ad had (.inr (.inl h1))
      ut := .inl h.ut
      uw := fun q hq => by
        rcases new q hq with h1 | h1
        · exact .inl (h.uw q h1)
        · refine .inr ⟨h1, ?_⟩
          rw [hgv] at hq; cases hq
          exact hgt.2
      ur := fun q hq => .inl (h.ur q hq)
      fw := FN _ (h.fw.mono (fun q hq hu => hq (.inl hu))) (fun q h1 h2 hn => hn (.inr ⟨h1, h2⟩))
      fr := h.fr.mono (fun q hq hu => hq (.inl hu))
      ul := fun q hq => by
        rcases hq with hq | hq
        · exact Nat.lt_of_lt_of_le (h.ul q hq) f.size
        · exact hq.2 }
/-- the tail of a row of events -/
theorem EvA.tail {B : Nat} {x : EvD} {LE : List EvD} {gv v' : Value} {P : Nat → Prop} (h : EvA B w (x :: LE) gv cs) (ho : w'.ownsRow B 31 5 v' LE.length (cs.drop 5)) (hb : v'.ownBlock = gv.ownBlock) (f : Fr w w' P) (hP : FOff (x :: LE) cs P) : EvA B w' LE v' (cs.drop 5) := by
  refine ⟨ho, fun i hi => ?_⟩
  obtain ⟨q, c, e, nn, hbb⟩ := h.gc (i + 1) (by simp; omega)
  refine ⟨q, c, fun j hj => ?_, ?_, fun p hp => ⟨(hbb p hp).1, Nat.lt_of_lt_of_le (hbb p hp).2.1 f.size, by rw [hb]; exact (hbb p hp).2.2⟩⟩
  · have := e j hj
    rw [List.getElem?_drop, show 5 + (i * 5 + j) = (i + 1) * 5 + j by omega, this]
    simp
  · exact Flds.fr (by simpa using nn) f (fun ad e2 => hP (i + 1) (by simp; omega) q c e ad e2)
theorem FOff.tail {x : EvD} {LE : List EvD} {P : Nat → Prop} (h : FOff (x :: LE) cs P) : FOff LE (cs.drop 5) P := fun i hi q cp e p hp => h (i + 1) (by simp; omega) q cp (fun j hj => by
  have := e j hj
  rw [List.getElem?_drop, show 5 + (i * 5 + j) = (i + 1) * 5 + j by omega] at this
  rw [this]; simp) p hp
/-- the first event is let go -/
theorem TlA.shift {x : EvD} {id' sq' : Int} {ev : Value} {e : Ending} (h : TlA w U t nodes to id sq (x :: LW) LR wv rv cs rs) (A : ShR w t (t + 1) nodes to id' sq' wv LW.length (cs.drop 5) rv ev e w') : Tch w U t nodes to id' sq' LW LR w' := by
  obtain ⟨_, a, c, T', ho, hb, f⟩ := A
  have RL := fun q hq => World.ownsRow.lt h.re.own q hq
  have off : ∀ {LE : List EvD} {v : Value} {cs' : List Value}, EvA (t + 1) w LE v cs' → FOff LE cs' (fun q => q = t) := fun k => k.above.mono (fun q hq => .inl (by omega))
  have WO : FOff (x :: LW) cs (fun q => q = t ∨ wv.ownBlock = some q) := (off h.we).or (h.we.above.mono (fun q hq => .inr (.inr hq)))
  refine ⟨U, ⟨.slice a LW.length c, rv, cs.drop 5, rs, ?_⟩, f.mono (fun q _ hq => hq.elim (fun e => e ▸ h.ut) (h.uw q)), fun q hq => .inl hq⟩
  exact
    { blk := T', we := h.we.tail ho hb f WO
      re := h.re.fr f (fun q hq e => by
        rcases hq with hq | hq
        · subst hq; have := (RL _ e).1; omega
        · exact h.ne q e hq) ((off h.re).or h.ro)
      ne := fun q hq => by rw [hb]; exact h.ne q hq
      wo := h.wo.tail
      ro := by rw [hb]; exact h.ro
      ut := h.ut
      uw := fun q hq => h.uw q (by rw [← hb]; exact hq)
      ur := h.ur
      fw := h.fw.tail
      fr := h.fr
      ul := fun q hq => Nat.lt_of_lt_of_le (h.ul q hq) f.size }
/-- the first event is refused -/
theorem TlA.refuse {x : EvD} {p : Option Addr} {cp : Nat} {e : Ending} (h : TlA w U t nodes to id sq (x :: LW) LR wv rv cs rs) (hx : ∀ j, j < 5 → cs[0 * 5 + j]? = (x.cells p cp)[j]?)
    (A : RfR w t (t + 1) nodes to id sq wv rv LW.length LR.length (cs.drop 5) rs (x.cells p cp) e w') : Tch w U t nodes to id sq LW (LR ++ [x]) w' := by
  have hlt := h.blk.lt
  obtain ⟨_, a, c, g, cap, T', ho, hb, hr, hat, f⟩ := A
  have hrl : rs.length = LR.length * 5 := h.re.own.1
  have hln : (LR ++ [x]).length = LR.length + 1 := by simp
  have hgv : (Value.slice (some ⟨g, 0, none⟩) (LR.length + 1) cap).ownBlock = some g := rfl
  have hgt := World.ownsRow.lt hr g rfl
  have WL := fun q hq => World.ownsRow.lt h.we.own q hq
  have new : ∀ q, (Value.slice (some ⟨g, 0, none⟩) (LR.length + 1) cap).ownBlock = some q → rv.ownBlock = some q ∨ w.heap.size ≤ q := fun q hq => by
    rw [hgv] at hq
    cases hq
    exact hat
  have off : ∀ {LE : List EvD} {v : Value} {cs' : List Value}, EvA (t + 1) w LE v cs' → FOff LE cs' (fun q => q = t) := fun k => k.above.mono (fun q hq => .inl (by omega))
  have own : ∀ {LE : List EvD} {v : Value} {cs' : List Value}, EvA (t + 1) w LE v cs' → FOff LE cs' (fun q => v.ownBlock = some q) := fun k => k.above.mono (fun q hq => .inr (.inr hq))
  have WO : FOff (x :: LW) cs (fun q => q = t ∨ wv.ownBlock = some q ∨ rv.ownBlock = some q) := (off h.we).or ((own h.we).or h.wo)
  have RO : FOff LR rs (fun q => q = t ∨ wv.ownBlock = some q ∨ rv.ownBlock = some q) := (off h.re).or (h.ro.or (own h.re))
  obtain ⟨q0, c0, e0, n0, b0⟩ := h.we.gc 0 (by simp)
  have hpq : q0 = p := (cells_at (hi := by simp) e0 hx).symm
  subst hpq
  have FN : ∀ (P : Nat → Prop), FOff LR rs P → (∀ ad, q0 = some ad → ¬ P ad.block) → FOff (LR ++ [x]) (rs ++ x.cells q0 cp) P := by
    intro P hF hP i hi q cq e ad had
    rw [hln] at hi
    rcases Nat.lt_or_ge i LR.length with h1 | h1
    · refine hF i h1 q cq (fun j hj => ?_) ad had
      have := e j hj
      rw [List.getElem?_append_left (by omega)] at this
      rw [this, List.getElem_append_left h1]
    · obtain rfl : i = LR.length := by omega
      have e4 := e 4 (by decide)
      rw [List.getElem?_append_right (by omega), show LR.length * 5 + 4 - rs.length = 4 by omega] at e4
      have hx : Value.slice q0 x.L.length cp = Value.slice q (LR ++ [x])[LR.length].L.length cq := by
        have : some (Value.slice q0 x.L.length cp) = some (Value.slice q (LR ++ [x])[LR.length].L.length cq) := e4
        exact Option.some.inj this
      have hpq : q0 = q := (Value.slice.inj hx).1
      exact hP ad (by rw [hpq]; exact had)
  have xo : ∀ ad, q0 = some ad → ¬ (ad.block = t ∨ wv.ownBlock = some ad.block ∨ rv.ownBlock = some ad.block) := fun ad e hh => WO 0 (by simp) q0 c0 e0 ad e hh
  have xl : ∀ ad, q0 = some ad → t + 1 ≤ ad.block ∧ ad.block < w.heap.size := fun ad e => ⟨(b0 ad e).1, (b0 ad e).2.1⟩
  refine ⟨(fun q => U q ∨ (w.heap.size ≤ q ∧ q < w'.heap.size)), ⟨.slice a LW.length c, .slice (some ⟨g, 0, none⟩) (LR.length + 1) cap, cs.drop 5, rs ++ x.cells q0 cp, ?_⟩, f.mono (fun q _ hq => hq.elim (fun e => e ▸ h.ut) (fun hq => hq.elim (h.uw q) (h.ur q))), fun q hq => hq.imp (fun h => h) (fun h => h.1)⟩
  have R' : EvA (t + 1) w' (LR ++ [x]) (.slice (some ⟨g, 0, none⟩) (LR.length + 1) cap) (rs ++ x.cells q0 cp) := by
    refine ⟨by rw [hln]; exact hr, fun i hi => ?_⟩
    rw [hln] at hi
    rcases Nat.lt_or_ge i LR.length with h1 | h1
    · obtain ⟨q, c', e1, nn, hbb⟩ := h.re.gc i h1
      rw [List.getElem_append_left h1]
      refine ⟨q, c', fun j hj => by rw [List.getElem?_append_left (by omega)]; exact e1 j hj, nn.fr f (fun ad e hh => RO i h1 q c' e1 ad e hh), fun ad e => ⟨(hbb ad e).1, Nat.lt_of_lt_of_le (hbb ad e).2.1 f.size, fun hh => ?_⟩⟩
      rcases new _ hh with h2 | h2
      · exact (hbb ad e).2.2 h2
      · have := (hbb ad e).2.1; omega
    · obtain rfl : i = LR.length := by omega
      rw [List.getElem_append_right (Nat.le_refl _)]
      simp only [Nat.sub_self, List.getElem_cons_zero]
      refine ⟨q0, cp, fun j hj => by rw [List.getElem?_append_right (by omega), show LR.length * 5 + j - rs.length = j by omega], Flds.fr (by simpa using n0) f (fun ad e hh => xo ad e hh), fun ad e => ⟨(xl ad e).1, Nat.lt_of_lt_of_le (xl ad e).2 f.size, fun hh => ?_⟩⟩
      rcases new _ hh with h2 | h2
      · exact xo ad e (.inr (.inr h2))
      · have := (xl ad e).2; omega
  exact
    { blk := T', we := h.we.tail ho hb f WO, re := R'
      ne := fun q hq => by
        rw [hb]
        rcases new q hq with h1 | h1
        · exact h.ne q h1
        · exact fun e => by have := (WL q e).2; omega
      wo := fun i hi q cq e ad had hh => by
        rcases new _ hh with h1 | h1
        · exact h.wo.tail i hi q cq e ad had h1
        · exact (h.we.above.mono (Q := fun q => w.heap.size ≤ q) (fun q hq => .inr (.inl hq))).tail i hi q cq e ad had h1
      ro := by
        rw [hb]
        exact FN _ h.ro (fun ad e hh => xo ad e (.inr (.inl hh)))
      ut := .inl h.ut
      uw := fun q hq => .inl (h.uw q (by rw [← hb]; exact hq))
      ur := fun q hq => by
        rcases new q hq with h1 | h1
        · exact .inl (h.ur q h1)
        · refine .inr ⟨h1, ?_⟩
          rw [hgv] at hq; cases hq
          exact hgt.2
      fw := (h.fw.tail).mono (fun q hq hu => hq (.inl hu))
      fr := FN _ (h.fr.mono (fun q hq hu => hq (.inl hu))) (fun ad e hn => h.fw 0 (by simp) q0 c0 e0 ad e (fun hu => hn (.inl hu)))
      ul := fun q hq => by
        rcases hq with hq | hq
        · exact Nat.lt_of_lt_of_le (h.ul q hq) f.size
        · exact hq.2 }
end
end Go.Proofs.Ytbghjcfepjbppaa
/-
  A TELLER's STATE, and what being told makes of it; the program's side.
-/
namespace Go.Proofs.Ytbghjcfepjbppaa
open Go.RowKit
/-- an event that waits, or was refused -/
structure EvK (y : EvD) : Prop where
  a : y.a = 0
  b : y.b = 0
  c : chkB 1 1 y.c y.k y.L = true
  f : ∀ f ∈ y.L, f.v.Wf ∧ f.v.s.size ≤ 281474976710656
structure TS where
  tn : Int
  id : Int
  sq : Int
  W : List EvD
  R : List EvD
structure TS.Ok (s : TS) (m : Nat) : Prop where
  tn : 0 ≤ s.tn ∧ s.tn ≤ 7
  id : 0 ≤ s.id ∧ s.id ≤ 549755813888
  sq : 0 ≤ s.sq ∧ s.sq ≤ m
  w : s.W.length ≤ 256
  r : s.R.length ≤ m
  we : ∀ y ∈ s.W, EvK y
  re : ∀ y ∈ s.R, EvK y
theorem TS.Ok.mono {s : TS} {m m' : Nat} (h : s.Ok m) (hm : m ≤ m') : s.Ok m' := ⟨h.tn, h.id, ⟨h.sq.1, by have := h.sq.2; omega⟩, h.w, Nat.le_trans h.r hm, h.we, h.re⟩
/-- the first event goes -/
def TS.pop (s : TS) : TS := ⟨s.tn, s.id, s.sq, s.W.tail, s.R⟩
def TS.told (s : TS) (nodes e n lead : Int) : TS :=
  match s.W with
  | [] => s
  | x :: l =>
    if e = 0 then
      if s.id = 0 then (if 1 ≤ n ∧ n ≤ 549755813888 then ⟨s.tn, n, 0, s.W, s.R⟩ else s)
      else if n = s.sq + 1 then ⟨s.tn, s.id, n, l, s.R⟩ else s
    else if e = 4 ∧ s.id ≠ 0 then ⟨s.tn, 0, 0, s.W, s.R⟩
    else if e = 130 ∧ s.id ≠ 0 then ⟨s.tn, s.id, s.sq, l, s.R ++ [x]⟩
    else ⟨turnN lead s.tn nodes, s.id, s.sq, s.W, s.R⟩
theorem turnN_ok {lead tn nodes : Int} (h : 0 ≤ tn ∧ tn ≤ 7) (hN : nodes ≤ 7) : 0 ≤ turnN lead tn nodes ∧ turnN lead tn nodes ≤ 7 := by
  unfold turnN nextN
  split
  · omega
  · split <;> omega
theorem TS.Ok.told {s : TS} {m : Nat} (h : s.Ok m) {nodes : Int} (hN : nodes ≤ 7) (e n lead : Int) : (s.told nodes e n lead).Ok (m + 1) := by
  have h1 := h.mono (Nat.le_succ m)
  unfold TS.told
  split
  · exact h1
  · rename_i x l hW
    have hl : l.length ≤ 256 := by have := h.w; rw [hW] at this; simp at this; omega
    have hx : EvK x := h.we x (by rw [hW]; exact List.mem_cons_self)
    have hll : ∀ y ∈ l, EvK y := fun y hy => h.we y (by rw [hW]; exact List.mem_cons_of_mem _ hy)
    have hsq := h.sq
    split
    · split
      · split
        · rename_i h2
          exact ⟨h.tn, by show 0 ≤ n ∧ n ≤ 549755813888; omega, ⟨by show (0 : Int) ≤ 0; omega, by show (0 : Int) ≤ _; omega⟩, h.w, h1.r, h.we, h.re⟩
        · exact h1
      · split
        · rename_i h2
          exact ⟨h.tn, h.id, ⟨by show 0 ≤ n; omega, by show n ≤ _; omega⟩, hl, h1.r, hll, h.re⟩
        · exact h1
    · split
      · exact ⟨h.tn, ⟨by show (0 : Int) ≤ 0; omega, by show (0 : Int) ≤ _; omega⟩, ⟨by show (0 : Int) ≤ 0; omega, by show (0 : Int) ≤ _; omega⟩, h.w, h1.r, h.we, h.re⟩
      · split
        · refine ⟨h.tn, h.id, h1.sq, hl, ?_, hll, fun y hy => ?_⟩
          · show (s.R ++ [x]).length ≤ _
            have := h.r
            simp; omega
          · rcases List.mem_append.1 hy with hy | hy
            · exact h.re y hy
            · simp only [List.mem_singleton] at hy; subst hy; exact hx
        · exact ⟨turnN_ok h.tn hN, h.id, h1.sq, h.w, h1.r, h.we, h.re⟩
section
variable {w w' : World} {U : Nat → Prop} {t : Nat} {nodes : Int}
/-- the program's teller in a state -/
def TlS (w : World) (U : Nat → Prop) (t : Nat) (nodes : Int) (s : TS) : Prop := TlM w U t nodes s.tn s.id s.sq s.W s.R
def TcS (w : World) (U : Nat → Prop) (t : Nat) (nodes : Int) (s : TS) (w' : World) : Prop := Tch w U t nodes s.tn s.id s.sq s.W s.R w'
theorem EvA.head {B : Nat} {x : EvD} {l : List EvD} {gv : Value} {cs : List Value} (h : EvA B w (x :: l) gv cs) : ∃ q cp, cs = encE x.a x.b x.c x.k (.slice q x.L.length cp) ++ cs.drop 5 ∧ (∀ j, j < 5 → cs[0 * 5 + j]? = (x.cells q cp)[j]?) ∧ Flds w q x.L := by
  obtain ⟨q, cp, e, nn, _⟩ := h.gc 0 (by simp)
  have hcl : cs.length = (x :: l).length * 5 := h.own.1
  simp only [List.length_cons] at hcl
  refine ⟨q, cp, ?_, by simpa using e, by simpa using nn⟩
  apply List.ext_getElem?
  intro i
  rcases Nat.lt_or_ge i 5 with h5 | h5
  · rw [List.getElem?_append_left (by simpa [encE] using h5)]
    have := e i h5
    show cs[i]? = (x.cells q cp)[i]?
    simpa using this
  · rw [List.getElem?_append_right (by simpa [encE] using h5), List.getElem?_drop]
    congr 1
    simp [encE]; omega
theorem EvA.one {B : Nat} {LE : List EvD} {gv : Value} {cs : List Value} (h : EvA B w LE gv cs) : ∀ u ∈ cs, u.oneCell' = true := by
  intro u hu
  obtain ⟨m, hm, rfl⟩ := List.getElem_of_mem hu
  have hcl : cs.length = LE.length * 5 := h.own.1
  have hi : m / 5 < LE.length := by omega
  obtain ⟨q, cp, e, _, _⟩ := h.gc (m / 5) hi
  have := e (m % 5) (Nat.mod_lt _ (by decide))
  rw [show m / 5 * 5 + m % 5 = m by omega, List.getElem?_eq_getElem hm] at this
  have hmem : cs[m] ∈ LE[m / 5].cells q cp := List.mem_of_getElem? this.symm
  exact one_encE _ _ _ _ _ _ _ _ hmem
theorem wv_slice {B n : Nat} {v : Value} {cs : List Value} (h : w.ownsRow B 31 5 v n cs) : ∃ a c, v = .slice a n c := own_slice h
set_option maxHeartbeats 1000000 in
theorem ptold {s : TS} {m : Nat} (h : TlS w U t nodes s) (ok : s.Ok m) (hm : m ≤ 900) (hN : nodes ≤ 7) (e n lead : Int) :
    Calls Try.prog 13 #[.pointer (some ⟨t, 0, none⟩), .agg #[.int .i64 e, .int .i64 n], .int .i64 lead] w fun r w' => r = .returned (.tuple #[]) ∧ TcS w U t nodes (s.told nodes e n lead) w' := by
  obtain ⟨wv, rv, cs, rs, A⟩ := h
  have hsq := ok.sq
  have htn := ok.tn
  have hwl := ok.w
  have hrl := ok.r
  obtain ⟨wa, wc, rfl⟩ := wv_slice A.we.own
  obtain ⟨ra, rc, rfl⟩ := wv_slice A.re.own
  unfold TcS
  obtain ⟨tn, id, sq, W, R⟩ := s
  simp only at A hsq htn hwl hrl ⊢
  unfold TS.told
  cases W with
  | nil =>
    exact (told_zero A.blk).mono fun r w' ⟨he, b⟩ => ⟨he, TlM.same ⟨_, _, _, _, A⟩ b⟩
  | cons x l =>
    simp only [List.length_cons] at hwl
    have T := A.blk
    have hn : 0 < (x :: l).length := by simp
    by_cases h0 : e = 0
    · subst h0
      simp only [if_true]
      by_cases hi : id = 0
      · subst hi
        simp only [if_true]
        by_cases hr : 1 ≤ n ∧ n ≤ 549755813888
        · rw [if_pos hr]
          exact (told_opens T hn hr).mono fun r w' ⟨he, T', f⟩ => ⟨he, A.boxC T' f⟩
        · rw [if_neg hr]
          exact (told_came (R := fun X w' => w' = X) T hn (fun X b => came_no (T.below b) hr)).mono fun r w' ⟨he, X, b, hw⟩ => ⟨he, TlM.same ⟨_, _, _, _, A⟩ (hw ▸ b)⟩
      · simp only [if_neg hi]
        by_cases hs : n = sq + 1
        · subst hs
          simp only [if_true]
          refine (told_came (R := fun X w' => Tch X U t nodes tn id (sq + 1) l R w') T hn (fun X b => ?_)).mono fun r w' ⟨he, X, b, k⟩ => ⟨he, Tch.below b k⟩
          have AX := A.off (Fr.of_below b (fun _ => False)) (fun _ h => h.elim)
          obtain ⟨q, cp, ec, hc, nn⟩ := AX.we.head
          have ho := AX.we.own
          have h1 := AX.we.one
          rw [ec] at ho
          refine (came_next (cs := cs.drop 5) (n := l.length) (a := x.a) (b := x.b) (c := x.c) (k := x.k) (p := q) (l := x.L.length) (cp := cp) AX.blk hi (by omega) (Nat.lt_succ_self t) (by simpa using ho) (by omega) (fun u hu => h1 u (List.mem_of_mem_drop hu))).mono fun r w' ⟨he, k⟩ => ⟨he, AX.shift k⟩
        · rw [if_neg hs]
          exact (told_came (R := fun X w' => w' = X) T hn (fun X b => came_old (T.below b) hi (by omega) hs)).mono fun r w' ⟨he, X, b, hw⟩ => ⟨he, TlM.same ⟨_, _, _, _, A⟩ (hw ▸ b)⟩
    · simp only [if_neg h0]
      by_cases h4 : e = 4 ∧ id ≠ 0
      · obtain ⟨rfl, hi⟩ := h4
        rw [if_pos ⟨rfl, hi⟩]
        exact (told_none T hn hi).mono fun r w' ⟨he, T', f⟩ => ⟨he, A.boxC T' f⟩
      · rw [if_neg h4]
        by_cases h130 : e = 130 ∧ id ≠ 0
        · obtain ⟨rfl, hi⟩ := h130
          rw [if_pos ⟨rfl, hi⟩]
          obtain ⟨q, cp, ec, hc, nn⟩ := A.we.head
          have ho := A.we.own
          have h1 := A.we.one
          have hlt := T.lt
          rw [ec] at ho
          exact (told_refuse (cs := cs.drop 5) (n := l.length) (a := x.a) (b := x.b) (c := x.c) (k := x.k) (p := q) (l := x.L.length) (cp := cp) T hi (Nat.lt_succ_self t) (by omega) (by simpa using ho) (by omega) (fun u hu => h1 u (List.mem_of_mem_drop hu)) A.re.own (by omega) A.ne).mono fun r w' k => ⟨k.1, A.refuse hc k⟩
        · rw [if_neg h130]
          exact (told_turn T hn (by omega) (by omega) h0 h4 h130).mono fun r w' ⟨he, T', f⟩ => ⟨he, A.boxC T' f⟩
theorem plate {s : TS} {m : Nat} (h : TlS w U t nodes s) (ok : s.Ok m) (hN : nodes ≤ 7) :
    Calls Try.prog 15 #[.pointer (some ⟨t, 0, none⟩)] w fun r w' => r = .returned (.tuple #[]) ∧ TcS w U t nodes ⟨nextN s.tn nodes, s.id, s.sq, s.W, s.R⟩ w' := by
  obtain ⟨wv, rv, cs, rs, A⟩ := h
  have htn := ok.tn
  exact (late_any A.blk (by omega) (by omega)).mono fun r w' ⟨he, T', f⟩ => ⟨he, A.boxC T' f⟩
end
end Go.Proofs.Ytbghjcfepjbppaa
/-
  A TELLER's STATE behind Add; its Ask.
-/
namespace Go.Proofs.Ytbghjcfepjbppaa
open Go.RowKit
def TS.addB (s : TS) (c : Int) (k : ByteArray) (L : List Fld) : Bool := chkB 1 1 c k L && decide (s.W.length < 256)
def TS.addE (s : TS) (c : Int) (k : ByteArray) (L : List Fld) : Int := if chkB 1 1 c k L = true then (if s.W.length < 256 then 0 else 7) else 1
def TS.add (s : TS) (c : Int) (k : ByteArray) (L : List Fld) : TS := if s.addB c k L = true then ⟨s.tn, s.id, s.sq, s.W ++ [⟨0, 0, c, k, L⟩], s.R⟩ else s
/-- fields that came in -/
def FldOk (L : List Fld) : Prop := ∀ f ∈ L, f.v.Wf ∧ f.nm.size ≤ 9223372036854775807 ∧ f.v.s.size ≤ 281474976710656
theorem TS.Ok.add {s : TS} {m : Nat} (h : s.Ok m) (c : Int) (k : ByteArray) (L : List Fld) (hL : FldOk L) : (s.add c k L).Ok (m + 1) := by
  have h1 := h.mono (Nat.le_succ m)
  unfold TS.add
  split
  · rename_i hb
    unfold TS.addB at hb
    simp only [Bool.and_eq_true, decide_eq_true_eq] at hb
    refine ⟨h.tn, h.id, h1.sq, ?_, h1.r, fun y hy => ?_, h.re⟩
    · show (s.W ++ [_]).length ≤ 256
      simp; omega
    · rcases List.mem_append.1 hy with hy | hy
      · exact h.we y hy
      · simp only [List.mem_singleton] at hy; subst hy
        exact ⟨rfl, rfl, hb.1, fun f hf => ⟨(hL f hf).1, (hL f hf).2.2⟩⟩
  · exact h1
/-- sizes of an event that may be -/
theorem EvK.sizes {c : Int} {k : ByteArray} {L : List Fld} (h : chkB 1 1 c k L = true) : (0 ≤ c ∧ c ≤ 549755813888) ∧ k.size ≤ 16 ∧ L.length ≤ 8 ∧ ∀ f ∈ L, f.nm.size ≤ 16 := by
  obtain ⟨_, _, hc, hk, hl, hf⟩ := chk_facts h
  refine ⟨hc, hk, hl, fun f hf' => ?_⟩
  obtain ⟨i, hi, rfl⟩ := List.getElem_of_mem hf'
  exact (hf i hi).1
theorem EvK.sm {y : EvD} (h : EvK y) : y.sm := by
  obtain ⟨_, hk, hl, hn⟩ := EvK.sizes h.c
  exact ⟨by omega, by omega, fun f hf => ⟨by have := hn f hf; omega, (h.f f hf).2⟩⟩
theorem chk_at {c : Int} {k : ByteArray} {L : List Fld} (h : chkB 1 1 c k L = true) {a b : Int} (ha : 0 ≤ a ∧ a ≤ 549755813888) (hb : 0 ≤ b ∧ b ≤ 549755813888) : chkB a b c k L = true := by
  unfold chkB numB at h ⊢
  simp only [Bool.and_eq_true, decide_eq_true_eq] at h ⊢
  exact ⟨ha, hb, h.2.2⟩
theorem ev_size {a b c : Int} {k : ByteArray} {L : List Fld} (h : chkB a b c k L = true) : (evS a b c k L).size ≤ 100000 := by
  obtain ⟨_, _, _, hk, hl, hf⟩ := chk_facts h
  unfold evS
  rw [ba_size]
  have h1 := headS_size a b c (L.length : Int) hk
  have h2 := fldsS_size (l := L) (fun x hx => by
    obtain ⟨i, hi, rfl⟩ := List.getElem_of_mem hx
    exact fldS_size (hf i hi).1 (hf i hi).2.2.1)
  omega
section
variable {w w' : World} {U : Nat → Prop} {t : Nat} {nodes : Int}
theorem padd {s : TS} (h : TlS w U t nodes s) (hw : s.W.length ≤ 256) (a b c : Int) (k : ByteArray) (p : Option Addr) (cp : Nat) (L : List Fld) (hF : Flds w p L) (hl : L.length ≤ 20) (hk : k.size ≤ 9223372036854775807) (hL : FldOk L) :
    Calls Try.prog 11 #[.pointer (some ⟨t, 0, none⟩), evV a b c k (.slice p L.length cp)] w fun r w' => r = .returned (.int .i64 (s.addE c k L)) ∧ TcS w U t nodes (s.add c k L) w' := by
  obtain ⟨wv, rv, cs, rs, A⟩ := h
  obtain ⟨wa, wc, rfl⟩ := wv_slice A.we.own
  have hlt := A.blk.lt
  have CK : ∀ W, Below w.heap.size w W → Calls Try.prog 41 #[evV 1 1 c k (.slice p L.length cp)] W fun e w' => e = .returned (.int .i64 (errI (chkB 1 1 c k L))) ∧ Below W.heap.size W w' :=
    fun W b' => check_any 1 1 c k p cp L W (by omega) hk (hF.below b') (fun x hx => ⟨(hL x hx).2.1, by have := (hL x hx).2.2; omega⟩)
  by_cases hb : chkB 1 1 c k L = true
  · rw [hb] at CK
    by_cases hn : s.W.length < 256
    · have he : s.addE c k L = 0 := by unfold TS.addE; rw [if_pos hb, if_pos hn]
      have hs : s.add c k L = ⟨s.tn, s.id, s.sq, s.W ++ [⟨0, 0, c, k, L⟩], s.R⟩ := by unfold TS.add TS.addB; simp [hb, hn]
      rw [he, hs]
      obtain ⟨_, hk16, _, hnm⟩ := EvK.sizes hb
      refine (add_ok A.blk (Nat.lt_succ_self t) (by omega) A.we.own hn CK (fun W b' => copied_any 0 0 c k (by omega) cp (hF.below b') (by omega) (fun x hx => ⟨by have := hnm x hx; omega, (hL x hx).2.2⟩))).mono fun r w' k => A.add k
    · have he : s.addE c k L = 7 := by unfold TS.addE; rw [if_pos hb, if_neg hn]
      have hs : s.add c k L = s := by unfold TS.add TS.addB; simp [hn]
      rw [he, hs]
      exact (add_full A.blk (by omega) a b c k p L.length cp CK).mono fun r w' ⟨he, b⟩ => ⟨he, TlM.same ⟨_, _, _, _, A⟩ b⟩
  · have hb' : chkB 1 1 c k L = false := by simpa using hb
    rw [hb'] at CK
    have he : s.addE c k L = 1 := by unfold TS.addE; rw [if_neg hb]
    have hs : s.add c k L = s := by unfold TS.add TS.addB; simp [hb']
    rw [he, hs]
    exact (add_bad a b c k p L.length cp CK).mono fun r w' ⟨he, b⟩ => ⟨he, TlM.same ⟨_, _, _, _, A⟩ b⟩
/-- what is asked -/
def TS.ask (s : TS) : ByteArray × Bool :=
  match s.W with
  | [] => (⟨#[]⟩, false)
  | x :: _ => if s.id = 0 then (⟨#[1]⟩, true) else (askS s.id (s.sq + 1) x.c x.k x.L, true)
/-- whom -/
def TS.askT (s : TS) : Int := if s.W = [] then 0 else s.tn
theorem pask {s : TS} {m : Nat} (h : TlS w U t nodes s) (ok : s.Ok m) (hm : m ≤ 900) :
    Calls Try.prog 34 #[.pointer (some ⟨t, 0, none⟩)] w fun r w' => r = .returned (.tuple #[askV s.askT s.ask.1 ⟨#[]⟩ 0 0, .bool s.ask.2]) ∧ Below w.heap.size w w' := by
  obtain ⟨wv, rv, cs, rs, A⟩ := h
  obtain ⟨wa, wc, rfl⟩ := wv_slice A.we.own
  have hsq := ok.sq
  have hid' := ok.id
  have hwe := ok.we
  obtain ⟨tn, id, sq, W, R⟩ := s
  simp only at A hsq hid' hwe
  unfold TS.ask TS.askT
  simp only
  cases W with
  | nil => exact ask_none A.blk
  | cons x l =>
    simp only [reduceCtorEq, if_false]
    by_cases hi : id = 0
    · subst hi
      exact ask_open A.blk (by simp)
    · simp only [if_neg hi]
      have hx := hwe x List.mem_cons_self
      obtain ⟨q, cp, ec, hc, nn⟩ := A.we.head
      have ho := A.we.own
      have hcl : cs.length = (x :: l).length * 5 := ho.1
      simp only [List.length_cons] at hcl
      obtain ⟨_, hk16, hl8, hnm⟩ := EvK.sizes hx.c
      have hC : chkB id (sq + 1) x.c x.k x.L = true := chk_at hx.c (by omega) (by omega)
      rcases ho.2 with ⟨h1, h2⟩ | ⟨g, cap, cur, h1, hb, hg, _⟩
      · simp at h2
      · cases h1
        have hl1 : (x :: l).length = l.length + 1 := rfl
        have CA : ∀ i u, i < 5 → (x.cells q cp)[i]? = some u → w.cell? ⟨g, i, none⟩ = some u := fun i u hi hu => by
          rw [World.ownsRow.cellAt ho _ (by omega)]
          have := hc i hi
          simp only [Nat.zero_mul, Nat.zero_add] at this
          rw [this]; exact hu
        exact ask_event A.blk (by simp) (by omega) (by omega) (CA 0 _ (by decide) rfl) (CA 1 _ (by decide) rfl) (CA 2 _ (by decide) rfl) (CA 3 _ (by decide) rfl) (CA 4 _ (by decide) rfl) (Array.getElem?_eq_some_iff.1 hg).1
          (fun W b' => write_event id (sq + 1) x.c x.k q cp x.L W (by omega) (by omega) (nn.below b') (fun f hf => ⟨by have := hnm f hf; omega, (hx.f f hf).2⟩) (fun f hf => (hx.f f hf).1) (by omega) (by omega) hC (ev_size hC))
end
end Go.Proofs.Ytbghjcfepjbppaa
/-
  FOR THE ROWS: a value that came in.
-/
namespace Go.Proofs.Ytbghjcfepjbppaa
open Go.Joins Go.ChangeShapes Go.WideShapes Go.RowKit Go.Deep
theorem trod_float {H : Type} {enc : TypeId × Value → H} {P : Program} {w : World} {base : Nat} {spare : Nat → Bool} {held : Bool} {fuel : Nat} {t : TypeId} {cs : List Value} {x : DataW H × List MemPlace} {k : FloatKind} (ht : P.underlying t = some (.float k)) (h : DataW.trod enc P w base spare held fuel t cs = some x) :
    ∃ n, cs = [.float k n] ∧ x = (.lit (.float k n), []) ∧ (Lit.float k n).wf = true := by
  cases fuel with
  | zero => simp [DataW.trod] at h
  | succ n =>
    unfold DataW.trod at h
    rw [ht] at h
    split at h <;> simp_all
theorem wf_f64 {n : Nat} (h : (Lit.float .f64 n).wf = true) : n < 18446744073709551616 := by
  have h2 : n < 2 ^ 64 := of_decide_eq_true h
  omega
theorem wf_i64 {n : Int} (h : (Lit.int .i64 n).wf = true) : -9223372036854775808 ≤ n ∧ n ≤ 9223372036854775807 := by
  have := bounds_i64 h
  exact ⟨by omega, by omega⟩
theorem one47 : oneCellFields Try.prog #[{ name := "Kind", type := 3, offset := 0, embedded := false, tag := "", pkgPath := "", byteOffset := 0 }, { name := "N", type := 3, offset := 1, embedded := false, tag := "", pkgPath := "", byteOffset := 8 }, { name := "F", type := 101, offset := 2, embedded := false, tag := "", pkgPath := "", byteOffset := 16 }, { name := "S", type := 9, offset := 3, embedded := false, tag := "", pkgPath := "", byteOffset := 24 }] = true := by kernel_rfl
theorem ce47 : Try.prog.cellsOf 103 = 4 := by kernel_rfl
set_option maxRecDepth 100000 in
theorem open_val {H : Type} {enc : TypeId × Value → H} {W : World} {base : Nat} {v : Value} {d : DataW H} {p : List MemPlace} (hv : Value.okWide Try.prog W .any base 103 v) (h : DataW.Trod enc Try.prog W 0 (fun _ => true) true 103 v d p) : ∃ a : Val, v = a.val ∧ a.Wf := by
  obtain ⟨v0, v1, v2, v3, y0, y1, y2, y3, n, rfl, _, _, h0, h1, h2, h3⟩ := open_agg4 Try.underlying103 one47 ce47 hv h
  obtain ⟨k0, e0, _, w0⟩ := DataW.trod_int Try.underlying3 h0
  obtain ⟨k1, e1, _, w1⟩ := DataW.trod_int Try.underlying3 h1
  obtain ⟨f2, e2, _, w2⟩ := trod_float Try.underlying101 h2
  obtain ⟨s3, e3, _, w3⟩ := DataW.trod_string Try.underlying9 h3
  simp only [List.cons.injEq, and_true] at e0 e1 e2 e3
  subst e0 e1 e2 e3
  exact ⟨⟨k0, k1, f2, s3⟩, rfl, wf_i64 w0, (wf_i64 w1).1, (wf_i64 w1).2, wf_f64 w2⟩
end Go.Proofs.Ytbghjcfepjbppaa
/-
  FOR THE ROWS: an event that came in.
-/
namespace Go.Proofs.Ytbghjcfepjbppaa
open Go.Joins Go.ChangeShapes Go.WideShapes Go.RowKit Go.Deep
theorem weightsAll_mem {H : Type} {P : Program} {e : TypeId} : ∀ {l : List (DataW H)} {d : DataW H} {n : Nat}, d ∈ l → n ∈ d.weights P e → n ∈ DataW.weightsAll P e l
  | x :: r, d, n, hd, hn => by
    simp only [DataW.weightsAll, List.mem_append]
    rcases List.mem_cons.1 hd with rfl | hd
    · exact .inl hn
    · exact .inr (weightsAll_mem hd hn)
theorem one24 : oneCellFields Try.prog #[{ name := "Session", type := 3, offset := 0, embedded := false, tag := "", pkgPath := "", byteOffset := 0 }, { name := "Seq", type := 3, offset := 1, embedded := false, tag := "", pkgPath := "", byteOffset := 8 }, { name := "Stamp", type := 3, offset := 2, embedded := false, tag := "", pkgPath := "", byteOffset := 16 }, { name := "Kind", type := 9, offset := 3, embedded := false, tag := "", pkgPath := "", byteOffset := 24 }, { name := "Fields", type := 29, offset := 4, embedded := false, tag := "", pkgPath := "", byteOffset := 40 }] = true := by kernel_rfl
theorem ce24 : Try.prog.cellsOf 31 = 5 := by kernel_rfl
theorem ce65 : Try.prog.cellsOf 105 = 5 := by kernel_rfl
theorem ce9 : Try.prog.cellsOf 9 = 1 := by kernel_rfl
theorem ce3 : Try.prog.cellsOf 3 = 1 := by kernel_rfl
theorem ce45 : Try.prog.cellsOf 101 = 1 := by kernel_rfl
theorem open_agg5 {H : Type} {enc : TypeId × Value → H} {P : Program} {w : World} {base : Nat} {spare : Nat → Bool} {held : Bool} {r : Reach} {b0 : Nat} {t : TypeId} {f0 f1 f2 f3 f4 : Field} {v : Value} {d : DataW H} {p : List MemPlace} (hs : P.underlying t = some (.struct #[f0, f1, f2, f3, f4])) (hone : oneCellFields P #[f0, f1, f2, f3, f4] = true) (hC : P.cellsOf t = 5)
    (hv : Value.okWide P w r b0 t v) (h : DataW.Trod enc P w base spare held t v d p) :
    ∃ (v0 v1 v2 v3 v4 : Value) (y0 y1 y2 y3 y4 : DataW H × List MemPlace) (n : Nat), v = .agg #[v0, v1, v2, v3, v4] ∧ d = .agg [y0.1, y1.1, y2.1, y3.1, y4.1] ∧ p = y0.2 ++ (y1.2 ++ (y2.2 ++ (y3.2 ++ y4.2))) ∧
      DataW.trod enc P w base spare held n f0.type [v0] = some y0 ∧ DataW.trod enc P w base spare held n f1.type [v1] = some y1 ∧ DataW.trod enc P w base spare held n f2.type [v2] = some y2 ∧ DataW.trod enc P w base spare held n f3.type [v3] = some y3 ∧ DataW.trod enc P w base spare held n f4.type [v4] = some y4 := by
  obtain ⟨cs, rfl, hsz⟩ := okWide_struct hs hv
  obtain ⟨l⟩ := cs
  match l, hsz.trans hC with
  | [c0, c1, c2, c3, c4], _ =>
    obtain ⟨fuel, hf⟩ := h
    obtain ⟨xs, n, _, hx, _, hlen, hg⟩ := DataW.trod_struct hs hf
    obtain ⟨o0, k0⟩ := hone_of hone 0 f0 rfl
    obtain ⟨o1, k1⟩ := hone_of hone 1 f1 rfl
    obtain ⟨o2, k2⟩ := hone_of hone 2 f2 rfl
    obtain ⟨o3, k3⟩ := hone_of hone 3 f3 rfl
    obtain ⟨o4, k4⟩ := hone_of hone 4 f4 rfl
    match xs, hlen with
    | [y0, y1, y2, y3, y4], _ =>
      simp only [Prod.mk.injEq] at hx
      exact ⟨c0, c1, c2, c3, c4, y0, y1, y2, y3, y4, n, rfl, by simpa using hx.1, by simpa using hx.2, by simpa [Value.cells, o0, k0] using hg 0 f0 rfl, by simpa [Value.cells, o1, k1] using hg 1 f1 rfl, by simpa [Value.cells, o2, k2] using hg 2 f2 rfl, by simpa [Value.cells, o3, k3] using hg 3 f3 rfl, by simpa [Value.cells, o4, k4] using hg 4 f4 rfl⟩
theorem add_at (b o n : Nat) : (⟨b, o, none⟩ : Addr).add n = ⟨b, o + n, none⟩ := by unfold Addr.add; split <;> simp_all
section
variable {H : Type} {enc : TypeId × Value → H} {W : World} {base : Nat}
set_option maxRecDepth 100000 in
theorem open_fld {b0 n : Nat} {sp : Nat → Bool} {hd : Bool} {a : Addr} {cs : List Value} {y : DataW H × List MemPlace} (h1 : W.cells? b0 a 5 = some cs) (h2 : DataW.trod enc Try.prog W b0 sp hd n 105 cs = some y) :
    ∃ x : Fld, x.v.Wf ∧ W.cell? (a.add 0) = some (.string x.nm) ∧ W.cell? (a.add 1) = some (.int .i64 x.v.k) ∧ W.cell? (a.add 2) = some (.int .i64 x.v.n) ∧ W.cell? (a.add 3) = some (.float .f64 x.v.f) ∧ W.cell? (a.add 4) = some (.string x.v.s) ∧ x.v.s.size ∈ y.1.weights Try.prog 105 ∧ x.nm.size ≤ maxLen ∧ x.v.s.size ≤ maxLen := by
  obtain ⟨_, hlen, hcell⟩ := World.cells?_some h1
  obtain ⟨xs, k, hk, hxy, _, hxl, hf⟩ := DataW.trod_struct Try.underlying105 h2
  match xs, hxl, cs, hlen with
  | [y0, y1], _, [v0, v1, v2, v3, v4], _ =>
    have g0 := hf 0 _ rfl
    have g1 := hf 1 _ rfl
    simp [ce9, ce47] at g0 g1
    obtain ⟨s0, e0, _, w0⟩ := DataW.trod_string Try.underlying9 g0
    obtain ⟨zs, k', hk', hzy, _, hzl, hz⟩ := DataW.trod_struct Try.underlying103 g1
    match zs, hzl with
    | [z0, z1, z2, z3], _ =>
      have t0 := hz 0 _ rfl
      have t1 := hz 1 _ rfl
      have t2 := hz 2 _ rfl
      have t3 := hz 3 _ rfl
      simp [ce9, ce3, ce45] at t0 t1 t2 t3
      obtain ⟨k0, q0, _, u0⟩ := DataW.trod_int Try.underlying3 t0
      obtain ⟨k1, q1, _, u1⟩ := DataW.trod_int Try.underlying3 t1
      obtain ⟨k2, q2, _, u2⟩ := trod_float Try.underlying101 t2
      obtain ⟨k3, q3, x3, u3⟩ := DataW.trod_string Try.underlying9 t3
      simp only [List.cons.injEq, and_true] at e0 q0 q1 q2 q3
      subst e0 q0 q1 q2 q3
      refine ⟨⟨s0, k0, k1, k2, k3⟩, ⟨wf_i64 u0, (wf_i64 u1).1, (wf_i64 u1).2, wf_f64 u2⟩, ?_, ?_, ?_, ?_, ?_, ?_, w0, u3⟩
      · simpa using hcell 0 (by omega)
      · simpa using hcell 1 (by omega)
      · simpa using hcell 2 (by omega)
      · simpa using hcell 3 (by omega)
      · simpa using hcell 4 (by omega)
      · rw [hxy]
        simp only [List.map_cons, List.map_nil, DataW.weights, Try.underlying105]
        refine DataW.weights_mem_each (j := 1) (t := 103) (d := y1.1) rfl rfl _ ?_
        rw [hzy]
        simp only [List.map_cons, List.map_nil, DataW.weights, Try.underlying103]
        refine DataW.weights_mem_each (j := 3) (t := 9) (d := z3.1) rfl rfl _ ?_
        rw [x3]
        simp only [DataW.weights, List.mem_singleton]
        rw [Array.length_toList]; rfl
set_option maxRecDepth 100000 in
theorem open_event {v : Value} {d : DataW H} {p : List MemPlace} (hv : Value.okWide Try.prog W .any base 31 v) (h : DataW.Trod enc Try.prog W 0 (fun _ => true) true 31 v d p) :
    ∃ (a b c : Int) (k : ByteArray) (q : Option Addr) (cp : Nat) (L : List Fld), v = evV a b c k (.slice q L.length cp) ∧ Flds W q L ∧ L.length ≤ 9223372036854775807 ∧ (∀ x ∈ L, x.v.Wf ∧ x.nm.size ≤ maxLen ∧ x.v.s.size ≤ maxLen) ∧ k.size ≤ maxLen ∧
      (-9223372036854775808 ≤ a ∧ a ≤ 9223372036854775807) ∧ (-9223372036854775808 ≤ b ∧ b ≤ 9223372036854775807) ∧ (-9223372036854775808 ≤ c ∧ c ≤ 9223372036854775807) ∧ ((∀ n ∈ d.weights Try.prog 31, n ≤ reachBytes) → ∀ x ∈ L, x.v.s.size ≤ reachBytes) := by
  obtain ⟨v0, v1, v2, v3, v4, y0, y1, y2, y3, y4, n, rfl, hd, _, h0, h1, h2, h3, h4⟩ := open_agg5 Try.underlying31 one24 ce24 hv h
  obtain ⟨k0, e0, _, w0⟩ := DataW.trod_int Try.underlying3 h0
  obtain ⟨k1, e1, _, w1⟩ := DataW.trod_int Try.underlying3 h1
  obtain ⟨k2, e2, _, w2⟩ := DataW.trod_int Try.underlying3 h2
  obtain ⟨s3, e3, _, w3⟩ := DataW.trod_string Try.underlying9 h3
  simp only [List.cons.injEq, and_true] at e0 e1 e2 e3
  subst e0 e1 e2 e3
  rcases Go.Deep.open_slice Try.underlying29 h4 with ⟨hcs, hy⟩ | ⟨a, len, cap, m, n', D, Pl, hcs, hb, hl, hm, hmm, hx, hi⟩
  · simp only [List.cons.injEq, and_true] at hcs
    subst hcs
    exact ⟨k0, k1, k2, s3, none, 0, [], rfl, fun i hi => by simp at hi, by simp, fun x hx => by simp at hx, w3, wf_i64 w0, wf_i64 w1, wf_i64 w2, fun _ x hx => by simp at hx⟩
  · simp only [List.cons.injEq, and_true] at hcs
    subst hcs
    have hlm : len ≤ m := by rw [hmm]; split <;> omega
    have hall : ∀ i, i < len → ∃ x : Fld, x.v.Wf ∧ W.cell? ((a.add (i * 5)).add 0) = some (.string x.nm) ∧ W.cell? ((a.add (i * 5)).add 1) = some (.int .i64 x.v.k) ∧ W.cell? ((a.add (i * 5)).add 2) = some (.int .i64 x.v.n) ∧ W.cell? ((a.add (i * 5)).add 3) = some (.float .f64 x.v.f) ∧ W.cell? ((a.add (i * 5)).add 4) = some (.string x.v.s) ∧ x.v.s.size ∈ (D i).weights Try.prog 105 ∧ x.nm.size ≤ maxLen ∧ x.v.s.size ≤ maxLen := fun i hi' => by
      obtain ⟨cs', hc, ht⟩ := hi i (by omega)
      rw [ce65] at hc
      exact open_fld hc ht
    have hsp : 0 < len → a.spot = none := fun h0 => by
      obtain ⟨x, _, c0, _⟩ := hall 0 h0
      obtain ⟨b, o, s⟩ := a
      cases s with
      | none => rfl
      | some q =>
        exfalso
        have e0 : ((⟨b, o, some q⟩ : Addr).add (0 * 5)).add 0 = ⟨b, o, some q⟩ := by simp [Addr.add]
        rw [e0] at c0
        have h01 : W.cell? ⟨b, o, some q⟩ = none := by
          unfold World.cell?
          split <;> simp
        rw [h01] at c0; simp at c0
    obtain ⟨f, hf⟩ : ∃ f : Nat → Fld, ∀ i, i < len → (f i).v.Wf ∧ W.cell? ((a.add (i * 5)).add 0) = some (.string (f i).nm) ∧ W.cell? ((a.add (i * 5)).add 1) = some (.int .i64 (f i).v.k) ∧ W.cell? ((a.add (i * 5)).add 2) = some (.int .i64 (f i).v.n) ∧ W.cell? ((a.add (i * 5)).add 3) = some (.float .f64 (f i).v.f) ∧ W.cell? ((a.add (i * 5)).add 4) = some (.string (f i).v.s) ∧ (f i).v.s.size ∈ (D i).weights Try.prog 105 ∧ (f i).nm.size ≤ maxLen ∧ (f i).v.s.size ≤ maxLen :=
      ⟨fun i => if h : i < len then Classical.choose (hall i h) else ⟨⟨#[]⟩, 0, 0, 0, ⟨#[]⟩⟩, fun i h => by
        simp only [dif_pos h]
        exact Classical.choose_spec (hall i h)⟩
    have e1 : ((List.range len).map f).length = len := by rw [List.length_map, List.length_range]
    refine ⟨k0, k1, k2, s3, some a, cap, (List.range len).map f, by rw [e1]; rfl, ?_, by rw [e1]; unfold maxLen at hm; omega, fun x hx => ?_, w3, wf_i64 w0, wf_i64 w1, wf_i64 w2, fun hw x hx' => ?_⟩
    · intro i hi'
      have hil : i < len := by rw [e1] at hi'; exact hi'
      have hs := (hf i hil).2
      have eg : ((List.range len).map f)[i] = f i := by rw [List.getElem_map, List.getElem_range]
      rw [eg]
      have hsn := hsp (by omega)
      clear hf hall hsp hi hmm
      obtain ⟨b, o, s⟩ := a
      simp only at hsn
      subst hsn
      simp only [add_at, Nat.add_zero] at hs
      exact ⟨b, o, rfl, World.block_lt_of_cell? _ _ hs.1, hs.1, hs.2.1, hs.2.2.1, hs.2.2.2.1, hs.2.2.2.2.1⟩
    · obtain ⟨i, hi', rfl⟩ := List.mem_map.1 hx
      have := hf i (List.mem_range.1 hi')
      exact ⟨this.1, this.2.2.2.2.2.2.2.1, this.2.2.2.2.2.2.2.2⟩
    · obtain ⟨i, hi', rfl⟩ := List.mem_map.1 hx'
      have hil := List.mem_range.1 hi'
      refine hw _ ?_
      rw [hd]
      simp only [DataW.weights, Try.underlying31]
      refine DataW.weights_mem_each (j := 4) (t := 29) (d := y4.1) rfl rfl _ ?_
      rw [hx]
      simp only [DataW.weights, Try.underlying29]
      refine List.mem_cons_of_mem _ (List.mem_append.2 (.inl ?_))
      exact weightsAll_mem (List.mem_map.2 ⟨i, hi', rfl⟩) (hf i hil).2.2.2.2.2.2.1
end
end Go.Proofs.Ytbghjcfepjbppaa
/-
  FOR THE ROWS: a reply that came in.
-/
namespace Go.Proofs.Ytbghjcfepjbppaa
open Go.Joins Go.ChangeShapes Go.WideShapes Go.RowKit Go.Deep
theorem one34 : oneCellFields Try.prog #[{ name := "Err", type := 32, offset := 0, embedded := false, tag := "", pkgPath := "", byteOffset := 0 }, { name := "N", type := 3, offset := 1, embedded := false, tag := "", pkgPath := "", byteOffset := 8 }] = true := by kernel_rfl
theorem ce34 : Try.prog.cellsOf 34 = 2 := by kernel_rfl
set_option maxRecDepth 100000 in
theorem open_reply {H : Type} {enc : TypeId × Value → H} {W : World} {base : Nat} {v : Value} {d : DataW H} {p : List MemPlace} (hv : Value.okWide Try.prog W .any base 34 v) (h : DataW.Trod enc Try.prog W 0 (fun _ => true) true 34 v d p) :
    ∃ a b : Int, v = .agg #[.int .i64 a, .int .i64 b] ∧ (-9223372036854775808 ≤ a ∧ a ≤ 9223372036854775807) ∧ (-9223372036854775808 ≤ b ∧ b ≤ 9223372036854775807) := by
  obtain ⟨v0, v1, y0, y1, n, rfl, _, _, h0, h1⟩ := open_agg2 Try.underlying34 one34 ce34 hv h
  obtain ⟨k0, e0, _, w0⟩ := DataW.trod_int Try.underlying32 h0
  obtain ⟨k1, e1, _, w1⟩ := DataW.trod_int Try.underlying3 h1
  simp only [List.cons.injEq, and_true] at e0 e1
  subst e0 e1
  exact ⟨k0, k1, rfl, wf_i64 w0, wf_i64 w1⟩
end Go.Proofs.Ytbghjcfepjbppaa
/-
  FOR THE ROWS: acts that came in.
-/
namespace Go.Proofs.Ytbghjcfepjbppaa
open Go.Joins Go.ChangeShapes Go.WideShapes Go.RowKit Go.Deep
theorem ce55 : Try.prog.cellsOf 55 = 1 := by kernel_rfl
theorem ce70 : Try.prog.cellsOf 70 = 1 := by kernel_rfl
theorem ce37 : Try.prog.cellsOf 37 = 11 := by kernel_rfl
theorem ce31' : Try.prog.cellsOf 31 = 5 := by kernel_rfl
theorem ce32 : Try.prog.cellsOf 32 = 1 := by kernel_rfl
theorem ce29 : Try.prog.cellsOf 29 = 1 := by kernel_rfl
theorem ce35 : Try.prog.cellsOf 35 = 1 := by kernel_rfl
theorem by3 : Try.prog.bytesOf 3 = 8 := by kernel_rfl
theorem spot_none {W : World} {a : Addr} {v : Value} (h : W.cell? (a.add 0) = some v) : a.spot = none := by
  obtain ⟨b, o, s⟩ := a
  cases s with
  | none => rfl
  | some q =>
    exfalso
    have e0 : (⟨b, o, some q⟩ : Addr).add 0 = ⟨b, o, some q⟩ := by simp [Addr.add]
    rw [e0] at h
    have h01 : W.cell? ⟨b, o, some q⟩ = none := by
      unfold World.cell?
      split <;> simp
    rw [h01] at h; simp at h
section
variable {H : Type} {enc : TypeId × Value → H} {W : World}
theorem open_nums {b0 n : Nat} {sp : Nat → Bool} {hd : Bool} {cs : List Value} {y : DataW H × List MemPlace} (h : DataW.trod enc Try.prog W b0 sp hd n 55 cs = some y) :
    ∃ (q : Option Addr) (c : Nat) (P : List Int), cs = [.slice q P.length c] ∧ Bk.Nums W q P ∧ ((∀ n ∈ y.1.weights Try.prog 55, n ≤ reachBytes) → P.length ≤ 17592186043904) := by
  rcases Go.Deep.open_slice1 Try.underlying55 ce3 h with ⟨rfl, _⟩ | ⟨a, len, cap, m, n', V, D, Pl, rfl, _, hl, hm, hmm, hx, hi⟩
  · exact ⟨none, 0, [], rfl, fun i hi => by simp at hi, by simp⟩
  · have hlm : len ≤ m := by rw [hmm]; split <;> omega
    have hall : ∀ i : Fin len, ∃ x : Int, W.cell? (a.add i.1) = some (.int .i64 x) := fun i => by
      obtain ⟨hc, ht⟩ := hi i.1 (by have := i.2; omega)
      obtain ⟨x, e, _, _⟩ := DataW.trod_int Try.underlying3 ht
      simp only [List.cons.injEq, and_true] at e
      rw [e] at hc
      exact ⟨x, hc⟩
    obtain ⟨f, hf⟩ := Classical.axiomOfChoice hall
    refine ⟨some a, cap, List.ofFn f, by rw [List.length_ofFn], ?_, fun hw => ?_⟩
    · intro i hi'
      have hil : i < len := by simpa using hi'
      have h0 := spot_none (hf ⟨0, by omega⟩)
      have h1 := hf ⟨i, hil⟩
      obtain ⟨b, o, s⟩ := a
      simp only at h0
      subst h0
      simp only [add_at] at h1
      refine ⟨b, o, rfl, World.block_lt_of_cell? _ _ h1, ?_⟩
      rw [h1, List.getElem_ofFn]
    · have hh := hw ((((List.range len).map D).length + ((List.range (m - len)).map fun j => D (len + j)).length) * Try.prog.bytesOf 3) (by
        rw [hx]
        simp only [DataW.weights, Try.underlying55]
        exact List.mem_cons_self)
      rw [by3, List.length_map, List.length_map, List.length_range, List.length_range] at hh
      rw [List.length_ofFn]
      unfold reachBytes at hh
      omega
theorem open_matches {b0 n : Nat} {sp : Nat → Bool} {hd : Bool} {cs : List Value} {y : DataW H × List MemPlace} (h : DataW.trod enc Try.prog W b0 sp hd n 35 cs = some y) :
    ∃ (q : Option Addr) (c : Nat) (LL : List (List Int)), cs = [.slice q LL.length c] ∧ Bk.Rws W q LL ∧ ((∀ n ∈ y.1.weights Try.prog 35, n ≤ reachBytes) → Small LL) ∧ LL.length ≤ 9223372036854775807 := by
  rcases Go.Deep.open_slice1 Try.underlying35 ce70 h with ⟨rfl, _⟩ | ⟨a, len, cap, m, n', V, D, Pl, rfl, _, hl, hm, hmm, hx, hi⟩
  · exact ⟨none, 0, [], rfl, fun i hi => by simp at hi, fun _ x hx => by simp at hx, by simp⟩
  · have hlm : len ≤ m := by rw [hmm]; split <;> omega
    have hall : ∀ i : Fin len, ∃ x : List Int × Option Addr × Nat, W.cell? (a.add i.1) = some (.slice x.2.1 x.1.length x.2.2) ∧ Bk.Nums W x.2.1 x.1 ∧ ((∀ n ∈ (D i.1).weights Try.prog 70, n ≤ reachBytes) → x.1.length ≤ 17592186043904) := fun i => by
      obtain ⟨hc, ht⟩ := hi i.1 (by have := i.2; omega)
      obtain ⟨xs, k, hk, hxy, _, hxl, hff⟩ := DataW.trod_struct Try.underlying70 ht
      match xs, hxl with
      | [y0], _ =>
        have g0 := hff 0 _ rfl
        simp [ce55] at g0
        obtain ⟨q, c, P, q0, hP, hw⟩ := open_nums g0
        simp only [List.cons.injEq, and_true] at q0
        rw [q0] at hc
        refine ⟨(P, q, c), hc, hP, fun hwt => hw (fun n hn => hwt n ?_)⟩
        have hD : D i.1 = .agg [y0.1] := by
          have := congrArg Prod.fst hxy
          simpa using this
        rw [hD]
        simp only [DataW.weights, Try.underlying70]
        exact DataW.weights_mem_each (j := 0) (t := 55) (d := y0.1) rfl rfl _ hn
    obtain ⟨f, hf⟩ := Classical.axiomOfChoice hall
    refine ⟨some a, cap, List.ofFn fun i => (f i).1, by rw [List.length_ofFn], ?_, fun hw x hx' => ?_, by rw [List.length_ofFn]; unfold maxLen at hm; omega⟩
    · intro i hi'
      have hil : i < len := by simpa using hi'
      have h0 := spot_none (hf ⟨0, by omega⟩).1
      have h1 := hf ⟨i, hil⟩
      obtain ⟨b, o, s⟩ := a
      simp only at h0
      subst h0
      simp only [add_at] at h1
      refine ⟨b, o, (f ⟨i, hil⟩).2.1, (f ⟨i, hil⟩).2.2, rfl, World.block_lt_of_cell? _ _ h1.1, ?_⟩
      rw [List.getElem_ofFn]
      exact ⟨h1.1, h1.2.1⟩
    · obtain ⟨i, rfl⟩ := List.mem_ofFn.1 hx'
      refine (hf i).2.2 (fun n hn => hw n ?_)
      rw [hx]
      simp only [DataW.weights, Try.underlying35]
      refine List.mem_cons_of_mem _ (List.mem_append.2 (.inl ?_))
      exact weightsAll_mem (List.mem_map.2 ⟨i.1, List.mem_range.2 i.2, rfl⟩) hn
set_option maxRecDepth 100000 in
theorem open_flds {b0 n : Nat} {sp : Nat → Bool} {hd : Bool} {v4 : Value} {y4 : DataW H × List MemPlace} (h4 : DataW.trod enc Try.prog W b0 sp hd n 29 [v4] = some y4) :
    ∃ (q : Option Addr) (cp : Nat) (L : List Fld), v4 = .slice q L.length cp ∧ Flds W q L ∧ L.length ≤ 9223372036854775807 ∧ (∀ x ∈ L, x.v.Wf ∧ x.nm.size ≤ maxLen ∧ x.v.s.size ≤ maxLen) ∧ ((∀ n ∈ y4.1.weights Try.prog 29, n ≤ reachBytes) → ∀ x ∈ L, x.v.s.size ≤ reachBytes) := by
  rcases Go.Deep.open_slice Try.underlying29 h4 with ⟨hcs, hy⟩ | ⟨a, len, cap, m, n', D, Pl, hcs, hb, hl, hm, hmm, hx, hi⟩
  · simp only [List.cons.injEq, and_true] at hcs
    subst hcs
    exact ⟨none, 0, [], rfl, fun i hi => by simp at hi, by simp, fun x hx => by simp at hx, fun _ x hx => by simp at hx⟩
  · simp only [List.cons.injEq, and_true] at hcs
    subst hcs
    have hlm : len ≤ m := by rw [hmm]; split <;> omega
    have hall : ∀ i, i < len → ∃ x : Fld, x.v.Wf ∧ W.cell? ((a.add (i * 5)).add 0) = some (.string x.nm) ∧ W.cell? ((a.add (i * 5)).add 1) = some (.int .i64 x.v.k) ∧ W.cell? ((a.add (i * 5)).add 2) = some (.int .i64 x.v.n) ∧ W.cell? ((a.add (i * 5)).add 3) = some (.float .f64 x.v.f) ∧ W.cell? ((a.add (i * 5)).add 4) = some (.string x.v.s) ∧ x.v.s.size ∈ (D i).weights Try.prog 105 ∧ x.nm.size ≤ maxLen ∧ x.v.s.size ≤ maxLen := fun i hi' => by
      obtain ⟨cs', hc, ht⟩ := hi i (by omega)
      rw [ce65] at hc
      exact open_fld hc ht
    have hsp : 0 < len → a.spot = none := fun h0 => by
      obtain ⟨x, _, c0, _⟩ := hall 0 h0
      obtain ⟨b, o, s⟩ := a
      cases s with
      | none => rfl
      | some q =>
        exfalso
        have e0 : ((⟨b, o, some q⟩ : Addr).add (0 * 5)).add 0 = ⟨b, o, some q⟩ := by simp [Addr.add]
        rw [e0] at c0
        have h01 : W.cell? ⟨b, o, some q⟩ = none := by
          unfold World.cell?
          split <;> simp
        rw [h01] at c0; simp at c0
    obtain ⟨f, hf⟩ : ∃ f : Nat → Fld, ∀ i, i < len → (f i).v.Wf ∧ W.cell? ((a.add (i * 5)).add 0) = some (.string (f i).nm) ∧ W.cell? ((a.add (i * 5)).add 1) = some (.int .i64 (f i).v.k) ∧ W.cell? ((a.add (i * 5)).add 2) = some (.int .i64 (f i).v.n) ∧ W.cell? ((a.add (i * 5)).add 3) = some (.float .f64 (f i).v.f) ∧ W.cell? ((a.add (i * 5)).add 4) = some (.string (f i).v.s) ∧ (f i).v.s.size ∈ (D i).weights Try.prog 105 ∧ (f i).nm.size ≤ maxLen ∧ (f i).v.s.size ≤ maxLen :=
      ⟨fun i => if h : i < len then Classical.choose (hall i h) else ⟨⟨#[]⟩, 0, 0, 0, ⟨#[]⟩⟩, fun i h => by
        simp only [dif_pos h]
        exact Classical.choose_spec (hall i h)⟩
    have e1 : ((List.range len).map f).length = len := by rw [List.length_map, List.length_range]
    refine ⟨some a, cap, (List.range len).map f, by rw [e1], ?_, by rw [e1]; unfold maxLen at hm; omega, fun x hx => ?_, fun hw x hx' => ?_⟩
    · intro i hi'
      have hil : i < len := by rw [e1] at hi'; exact hi'
      have hs := (hf i hil).2
      have eg : ((List.range len).map f)[i] = f i := by rw [List.getElem_map, List.getElem_range]
      rw [eg]
      have hsn := hsp (by omega)
      clear hf hall hsp hi hmm
      obtain ⟨b, o, s⟩ := a
      simp only at hsn
      subst hsn
      simp only [add_at, Nat.add_zero] at hs
      exact ⟨b, o, rfl, World.block_lt_of_cell? _ _ hs.1, hs.1, hs.2.1, hs.2.2.1, hs.2.2.2.1, hs.2.2.2.2.1⟩
    · obtain ⟨i, hi', rfl⟩ := List.mem_map.1 hx
      have := hf i (List.mem_range.1 hi')
      exact ⟨this.1, this.2.2.2.2.2.2.2.1, this.2.2.2.2.2.2.2.2⟩
    · obtain ⟨i, hi', rfl⟩ := List.mem_map.1 hx'
      have hil := List.mem_range.1 hi'
      refine hw _ ?_
      rw [hx]
      simp only [DataW.weights, Try.underlying29]
      refine List.mem_cons_of_mem _ (List.mem_append.2 (.inl ?_))
      exact weightsAll_mem (List.mem_map.2 ⟨i, hi', rfl⟩) (hf i hil).2.2.2.2.2.2.1
/-- an act -/
structure AcT where
  k : Int
  a : Int
  b : Int
  c : Int
  ek : ByteArray
  F : List Fld
  err : Int
  rn : Int
  lead : Int
  n : Int
  LL : List (List Int)
/-- an act's numbers are such -/
def AcT.ok (x : AcT) : Prop := (-9223372036854775808 ≤ x.n ∧ x.n ≤ 9223372036854775807) ∧ (-9223372036854775808 ≤ x.rn ∧ x.rn ≤ 9223372036854775807) ∧ x.LL.length ≤ 9223372036854775807 ∧ x.F.length ≤ 9223372036854775807 ∧ x.ek.size ≤ maxLen ∧ (∀ y ∈ x.F, y.v.Wf ∧ y.nm.size ≤ maxLen ∧ y.v.s.size ≤ maxLen)
/-- an act's lists are not too long -/
def AcT.sm (x : AcT) : Prop := Small x.LL ∧ ∀ y ∈ x.F, y.v.s.size ≤ reachBytes
/-- an act that came in, at its place -/
def AcAt (W : World) (a : Addr) (x : AcT) (fq : Option Addr) (fc : Nat) (lq : Option Addr) (lc : Nat) : Prop :=
  (W.cell? (a.add 0) = some (.int .i64 x.k) ∧ W.cell? (a.add 1) = some (.int .i64 x.a) ∧ W.cell? (a.add 2) = some (.int .i64 x.b) ∧ W.cell? (a.add 3) = some (.int .i64 x.c) ∧ W.cell? (a.add 4) = some (.string x.ek) ∧ W.cell? (a.add 5) = some (.slice fq x.F.length fc) ∧
    W.cell? (a.add 6) = some (.int .i64 x.err) ∧ W.cell? (a.add 7) = some (.int .i64 x.rn) ∧ W.cell? (a.add 8) = some (.int .i64 x.lead) ∧ W.cell? (a.add 9) = some (.int .i64 x.n) ∧ W.cell? (a.add 10) = some (.slice lq x.LL.length lc)) ∧
    Flds W fq x.F ∧ Bk.Rws W lq x.LL ∧ x.ok
set_option maxRecDepth 100000 in
theorem open_act {b0 n : Nat} {sp : Nat → Bool} {hd : Bool} {a : Addr} {cs : List Value} {y : DataW H × List MemPlace} (h1 : W.cells? b0 a 11 = some cs) (h2 : DataW.trod enc Try.prog W b0 sp hd n 37 cs = some y) :
    ∃ x : AcT × (Option Addr × Nat) × (Option Addr × Nat), AcAt W a x.1 x.2.1.1 x.2.1.2 x.2.2.1 x.2.2.2 ∧ ((∀ n ∈ y.1.weights Try.prog 37, n ≤ reachBytes) → x.1.sm) := by
  obtain ⟨_, hlen, hcell⟩ := World.cells?_some h1
  obtain ⟨xs, k, hk, hxy, _, hxl, hf⟩ := DataW.trod_struct Try.underlying37 h2
  match xs, hxl, cs, hlen with
  | [y0, y1, y2, y3, y4, y5], _, [v0, v1, v2, v3, v4, v5, v6, v7, v8, v9, v10], _ =>
    have g0 := hf 0 _ rfl
    have g1 := hf 1 _ rfl
    have g2 := hf 2 _ rfl
    have g3 := hf 3 _ rfl
    have g4 := hf 4 _ rfl
    have g5 := hf 5 _ rfl
    simp [ce3, ce31', ce34, ce35] at g0 g1 g2 g3 g4 g5
    obtain ⟨k0, q0, _, u0⟩ := DataW.trod_int Try.underlying3 g0
    obtain ⟨k3, q3, _, u3⟩ := DataW.trod_int Try.underlying3 g3
    obtain ⟨k4, q4, _, u4⟩ := DataW.trod_int Try.underlying3 g4
    obtain ⟨lq, lc, LL, q5, hL, hwL, hlL⟩ := open_matches g5
    obtain ⟨zs, k', hk', hzy, _, hzl, hz⟩ := DataW.trod_struct Try.underlying31 g1
    match zs, hzl with
    | [z0, z1, z2, z3, z4], _ =>
      have t0 := hz 0 _ rfl
      have t1 := hz 1 _ rfl
      have t2 := hz 2 _ rfl
      have t3 := hz 3 _ rfl
      have t4 := hz 4 _ rfl
      simp [ce3, ce9, ce29] at t0 t1 t2 t3 t4
      obtain ⟨ea, p0, _, _⟩ := DataW.trod_int Try.underlying3 t0
      obtain ⟨eb, p1, _, _⟩ := DataW.trod_int Try.underlying3 t1
      obtain ⟨ec, p2, _, _⟩ := DataW.trod_int Try.underlying3 t2
      obtain ⟨ek, p3, _, uk⟩ := DataW.trod_string Try.underlying9 t3
      obtain ⟨fq, fc, F, p4, hF, hlF, hwF, hsF⟩ := open_flds t4
      obtain ⟨rs, k'', hk'', hry, _, hrl, hr⟩ := DataW.trod_struct Try.underlying34 g2
      match rs, hrl with
      | [r0, r1], _ =>
        have s0 := hr 0 _ rfl
        have s1 := hr 1 _ rfl
        simp [ce3, ce32] at s0 s1
        obtain ⟨er, m0, _, _⟩ := DataW.trod_int Try.underlying32 s0
        obtain ⟨rn, m1, _, um⟩ := DataW.trod_int Try.underlying3 s1
        simp only [List.cons.injEq, and_true] at q0 q3 q4 q5 p0 p1 p2 p3 m0 m1
        subst q0 q3 q4 q5 p0 p1 p2 p3 p4 m0 m1
        refine ⟨(⟨k0, ea, eb, ec, ek, F, er, rn, k3, k4, LL⟩, (fq, fc), (lq, lc)), ⟨⟨?_, ?_, ?_, ?_, ?_, ?_, ?_, ?_, ?_, ?_, ?_⟩, hF, hL, wf_i64 u4, wf_i64 um, hlL, hlF, uk, hwF⟩, fun hw => ⟨hwL (fun n hn => hw n ?_), hsF (fun n hn => hw n ?_)⟩⟩
        · simpa using hcell 0 (by omega)
        · simpa using hcell 1 (by omega)
        · simpa using hcell 2 (by omega)
        · simpa using hcell 3 (by omega)
        · simpa using hcell 4 (by omega)
        · simpa using hcell 5 (by omega)
        · simpa using hcell 6 (by omega)
        · simpa using hcell 7 (by omega)
        · simpa using hcell 8 (by omega)
        · simpa using hcell 9 (by omega)
        · simpa using hcell 10 (by omega)
        · rw [hxy]
          simp only [List.map_cons, List.map_nil, DataW.weights, Try.underlying37]
          exact DataW.weights_mem_each (j := 5) (t := 35) (d := y5.1) rfl rfl _ hn
        · rw [hxy]
          simp only [List.map_cons, List.map_nil, DataW.weights, Try.underlying37]
          refine DataW.weights_mem_each (j := 1) (t := 31) (d := y1.1) rfl rfl _ ?_
          rw [hzy]
          simp only [List.map_cons, List.map_nil, DataW.weights, Try.underlying31]
          exact DataW.weights_mem_each (j := 4) (t := 29) (d := z4.1) rfl rfl _ hn
/-- acts in memory -/
def AcsT (w : World) (a : Option Addr) (R : List AcT) : Prop := ∀ p (h : p < R.length), ∃ g o fq fc lq lc, a = some ⟨g, o, none⟩ ∧ g < w.heap.size ∧ AcAt w ⟨g, o + p * 11, none⟩ R[p] fq fc lq lc
set_option maxRecDepth 100000 in
theorem open_acts {base : Nat} {v : Value} {d : DataW H} {p : List MemPlace} (hv : Value.okWide Try.prog W .any base 22 v) (h : DataW.Trod enc Try.prog W 0 (fun _ => true) true 22 v d p) :
    ∃ (a : Option Addr) (L : List AcT) (c : Nat), v = .slice a L.length c ∧ AcsT W a L ∧ L.length ≤ 9223372036854775807 ∧ ((∀ n ∈ d.weights Try.prog 22, n ≤ reachBytes) → ∀ x ∈ L, x.sm) := by
  obtain ⟨a0, len, cap, rfl⟩ := okWide_slice Try.underlying22 hv
  obtain ⟨fuel, hf⟩ := h
  rcases Go.Deep.open_slice Try.underlying22 hf with ⟨hcs, _⟩ | ⟨a, len', cap', m, n, D, Pl, hcs, hb, hl, hm, hmm, hx, hi⟩
  · simp [Value.cells] at hcs
    obtain ⟨rfl, rfl, rfl⟩ := hcs
    exact ⟨none, [], 0, rfl, fun i hi => absurd hi (Nat.not_lt_zero i), by simp, fun _ x hx => by simp at hx⟩
  · simp [Value.cells] at hcs
    obtain ⟨rfl, rfl, rfl⟩ := hcs
    have hlm : len ≤ m := by rw [hmm]; split <;> omega
    have hall : ∀ i : Fin len, ∃ x : AcT × (Option Addr × Nat) × (Option Addr × Nat), AcAt W (a.add (i.1 * 11)) x.1 x.2.1.1 x.2.1.2 x.2.2.1 x.2.2.2 ∧ ((∀ n ∈ (D i.1).weights Try.prog 37, n ≤ reachBytes) → x.1.sm) := fun i => by
      obtain ⟨cs', hc, ht⟩ := hi i.1 (by have := i.2; omega)
      rw [ce37] at hc
      exact open_act hc ht
    obtain ⟨f, hf⟩ := Classical.axiomOfChoice hall
    refine ⟨some a, List.ofFn fun i => (f i).1, cap, by rw [List.length_ofFn], ?_, by rw [List.length_ofFn]; unfold maxLen at hm; omega, fun hw x hx' => ?_⟩
    · intro i hi'
      have hil : i < len := by simpa using hi'
      have hz := (hf ⟨0, by omega⟩).1.1.1
      have h1 := (hf ⟨i, hil⟩).1
      clear hf hall hi hmm
      have h0 : a.spot = none := by
        obtain ⟨b, o, s⟩ := a
        simp only [Nat.zero_mul] at hz
        have e : (⟨b, o, s⟩ : Addr).add 0 = ⟨b, o, s⟩ := by cases s <;> simp [Addr.add]
        rw [e] at hz
        exact spot_none hz
      obtain ⟨b, o, s⟩ := a
      simp only at h0
      subst h0
      simp only [add_at] at h1
      refine ⟨b, o, (f ⟨i, hil⟩).2.1.1, (f ⟨i, hil⟩).2.1.2, (f ⟨i, hil⟩).2.2.1, (f ⟨i, hil⟩).2.2.2, rfl, World.block_lt_of_cell? _ _ h1.1.1, ?_⟩
      rw [List.getElem_ofFn]
      exact h1
    · obtain ⟨i, rfl⟩ := List.mem_ofFn.1 hx'
      refine (hf i).2 (fun n hn => hw n ?_)
      have hd := congrArg Prod.fst hx
      simp only at hd
      rw [hd]
      simp only [DataW.weights, Try.underlying22]
      refine List.mem_cons_of_mem _ (List.mem_append.2 (.inl ?_))
      exact weightsAll_mem (List.mem_map.2 ⟨i.1, List.mem_range.2 i.2, rfl⟩) hn
end
end Go.Proofs.Ytbghjcfepjbppaa
/-
  FOR THE ROWS: who reads, that came in.
-/
namespace Go.Proofs.Ytbghjcfepjbppaa
open Go.Joins Go.ChangeShapes Go.WideShapes Go.RowKit Go.Deep
theorem one51 : oneCellFields Try.prog #[{ name := "Nodes", type := 3, offset := 0, embedded := false, tag := "", pkgPath := "", byteOffset := 0 }, { name := "Name", type := 9, offset := 1, embedded := false, tag := "", pkgPath := "", byteOffset := 8 }] = true := by kernel_rfl
theorem ce51 : Try.prog.cellsOf 51 = 2 := by kernel_rfl
set_option maxRecDepth 100000 in
theorem open_who {H : Type} {enc : TypeId × Value → H} {W : World} {base : Nat} {v : Value} {d : DataW H} {p : List MemPlace} (hv : Value.okWide Try.prog W .any base 51 v) (h : DataW.Trod enc Try.prog W 0 (fun _ => true) true 51 v d p) :
    ∃ (a : Int) (s : ByteArray), v = .agg #[.int .i64 a, .string s] ∧ (-9223372036854775808 ≤ a ∧ a ≤ 9223372036854775807) ∧ s.size ≤ maxLen := by
  obtain ⟨v0, v1, y0, y1, n, rfl, _, _, h0, h1⟩ := open_agg2 Try.underlying51 one51 ce51 hv h
  obtain ⟨k0, e0, _, w0⟩ := DataW.trod_int Try.underlying3 h0
  obtain ⟨k1, e1, _, w1⟩ := DataW.trod_string Try.underlying9 h1
  simp only [List.cons.injEq, and_true] at e0 e1
  subst e0 e1
  exact ⟨k0, k1, rfl, wf_i64 w0, w1⟩
end Go.Proofs.Ytbghjcfepjbppaa
/-
  THE DOCUMENT's OWN Word.
-/
namespace Go.Proofs.Ytbghjcfepjbppaa
open Go.RowKit
set_option maxHeartbeats 2000000 in
theorem rword_any (s : ByteArray) (hs : s.size ≤ 9223372036854775807) (w : World) : Calls Try.prog 18 #[.string s] w fun e w' => e = .returned (.bool (wordB s)) ∧ w = w' := by
  obtain ⟨A, hA⟩ : ∃ A, wordB s = A := ⟨_, rfl⟩
  have HA := Lib.hid hA
  rw [hA]
  clear hA
  go_enter Try.func18, Try.ntmps18
  go_wp2_with fail
  go_loop [3] (fun i => ∃ k : Nat, i = .int .i64 k ∧ k ≤ s.size ∧ Hid ((((bl s).take k).all fun b => chB b.toNat) = true) ∧ Hid (0 < k → lettB ((bl s).headD 0).toNat = true)) (fun i => s.size - (intOf i).toNat)
  case atStart => exact ⟨0, rfl, Nat.zero_le _, Lib.hid rfl, Lib.hid (fun h => absurd h (by decide))⟩
  case round =>
    obtain ⟨k, rfl, hk, hall, hhd⟩ := hrel
    by_cases hks : k < s.size
    · have HD := Lib.hid (head_at s (by omega))
      have NF := Lib.hid (fun (h : chB s[k].toNat = false) => show false = A by
        rw [← HA.out]
        unfold wordB
        have : ((bl s).all fun b => chB b.toNat) = false := by
          rw [List.all_eq_false]
          refine ⟨s[k], ?_, by rw [h]; decide⟩
          unfold bl
          exact List.mem_iff_getElem.2 ⟨k, by rw [Array.length_toList]; exact hks, rfl⟩
        rw [this, Bool.and_false])
      have NX := Lib.hid (fun (h : chB s[k].toNat = true) => show (((bl s).take (k + 1)).all fun b => chB b.toNat) = true by
        rw [take_more s k hks, List.all_append, hall.out]; simp [h])
      have N0 := Lib.hid (fun (h0 : k = 0) (h : lettB s[k].toNat = false) => show false = A by
        rw [← HA.out]
        unfold wordB
        have : lettB ((bl s).headD 0).toNat = false := by rw [HD.out]; subst h0; exact h
        rw [this, Bool.and_false, Bool.false_and])
      have NH := Lib.hid (fun (h : k = 0 → lettB s[k].toNat = true) => show (0 < k + 1 → lettB ((bl s).headD 0).toNat = true) from fun _ => by
        by_cases hk0 : k = 0
        · rw [HD.out]; subst hk0; exact h rfl
        · exact hhd.out (by omega))
      by_cases hlt : 97 ≤ (s[k].toNat : Int) ∧ (s[k].toNat : Int) ≤ 122
      · have h1 := hlt.1
        have h2 := hlt.2
        have LL : lettB s[k].toNat = true := by unfold lettB; simp; omega
        have N1 := Lib.hid (NX.out (by unfold chB; rw [LL]; rfl))
        have N2 := Lib.hid (NH.out (fun _ => LL))
        clear NF NX N0 NH hlt LL
        go_wp2_with fail
        go_round
        case rel => exact ⟨k + 1, by go_num, by omega, N1, N2⟩
        case measure => simp [intOf]; omega
      · have LL : lettB s[k].toNat = false := by unfold lettB; simp; omega
        by_cases hk0 : k = 0
        · have R := Lib.hid (N0.out hk0 LL)
          subst hk0
          clear NF NX N0 NH LL
          rw [show ((0 : Nat) : Int) = 0 from rfl]
          by_cases h1 : 97 ≤ (s[0].toNat : Int)
          · have h2 : 122 < (s[0].toNat : Int) := by omega
            have g2 : decide ((s[0].toNat : Int) ≤ 122) = false := by simp; omega
            clear hlt
            go_wp2_with fail
            go_ret
            exact ⟨ret_bool R.out, rfl⟩
          · have h2 : (s[0].toNat : Int) < 97 := by omega
            clear hlt h1
            go_wp2_with fail
            go_ret
            exact ⟨ret_bool R.out, rfl⟩
        · have N2 := Lib.hid (NH.out (fun h => absurd h hk0))
          have z1 : ((k : Int) == 0) = false := by simp; omega
          by_cases hd : 48 ≤ (s[k].toNat : Int) ∧ (s[k].toNat : Int) ≤ 57
          · have h1 := hd.1
            have h2 := hd.2
            have h3 : (s[k].toNat : Int) < 97 := by omega
            have N1 := Lib.hid (NX.out (by unfold chB digB; rw [LL]; simp; omega))
            clear NF NX N0 NH LL hd hlt hk0
            go_wp2_with fail
            go_round
            case rel => exact ⟨k + 1, by go_num, by omega, N1, N2⟩
            case measure => simp [intOf]; omega
          · by_cases h95 : (s[k].toNat : Int) = 95
            · have e95 : ((s[k].toNat : Int) == 95) = true := by simpa using h95
              have h3 : (s[k].toNat : Int) < 97 := by omega
              have h4 : 57 < (s[k].toNat : Int) := by omega
              have g4 : decide ((s[k].toNat : Int) ≤ 57) = false := by simp; omega
              have h5 : 48 ≤ (s[k].toNat : Int) := by omega
              have N1 := Lib.hid (NX.out (by unfold chB digB; rw [LL]; simp; omega))
              clear NF NX N0 NH LL hd hlt hk0 h95
              go_wp2_with fail
              go_round
              case rel => exact ⟨k + 1, by go_num, by omega, N1, N2⟩
              case measure => simp [intOf]; omega
            · have e95 : ((s[k].toNat : Int) == 95) = false := by simpa using h95
              have R := Lib.hid (NF.out (by unfold chB digB; rw [LL]; simp; omega))
              clear NF NX N0 NH LL hk0 h95
              by_cases h1 : 97 ≤ (s[k].toNat : Int)
              · have h2 : 122 < (s[k].toNat : Int) := by omega
                have g2 : decide ((s[k].toNat : Int) ≤ 122) = false := by simp; omega
                have h3 : 48 ≤ (s[k].toNat : Int) := by omega
                have h4 : 57 < (s[k].toNat : Int) := by omega
                have g4 : decide ((s[k].toNat : Int) ≤ 57) = false := by simp; omega
                clear hd hlt
                go_wp2_with fail
                go_ret
                exact ⟨ret_bool R.out, rfl⟩
              · have h2 : (s[k].toNat : Int) < 97 := by omega
                by_cases h3 : 48 ≤ (s[k].toNat : Int)
                · have h4 : 57 < (s[k].toNat : Int) := by omega
                  have g4 : decide ((s[k].toNat : Int) ≤ 57) = false := by simp; omega
                  clear hd hlt h1
                  go_wp2_with fail
                  go_ret
                  exact ⟨ret_bool R.out, rfl⟩
                · have h4 : (s[k].toNat : Int) < 48 := by omega
                  clear hd hlt h1 h3
                  go_wp2_with fail
                  go_ret
                  exact ⟨ret_bool R.out, rfl⟩
    · obtain rfl : k = s.size := by omega
      have R := Lib.hid (show (decide (1 ≤ s.size) && decide (s.size ≤ 16)) = A by
        rw [← HA.out]
        unfold wordB
        have h1 : ((bl s).all fun b => chB b.toNat) = true := by rw [← hall.out, List.take_of_length_le (by rw [bl_len]; exact Nat.le_refl _)]
        rw [h1, Bool.and_true]
        by_cases h0 : 0 < s.size
        · rw [hhd.out h0, Bool.and_true]
        · rw [decide_eq_false (show ¬ 1 ≤ s.size by omega)]; rfl)
      by_cases h0 : 1 ≤ s.size
      · have h0' : (1 : Int) ≤ (s.size : Int) := by omega
        by_cases h16 : s.size ≤ 16
        · have h16' : (s.size : Int) ≤ 16 := by omega
          rw [decide_eq_true h0, decide_eq_true h16] at R
          go_wp2_with fail
          go_ret
          exact ⟨ret_bool (by rw [← R.out]; simp; try omega), rfl⟩
        · have h16' : (16 : Int) < (s.size : Int) := by omega
          rw [decide_eq_true h0, decide_eq_false h16] at R
          go_wp2_with fail
          go_ret
          exact ⟨ret_bool (by rw [← R.out]; simp; try omega), rfl⟩
      · have h0' : (s.size : Int) < 1 := by omega
        rw [decide_eq_false h0] at R
        go_wp2_with fail
        go_ret
        exact ⟨ret_bool (by rw [← R.out]; simp; try omega), rfl⟩
end Go.Proofs.Ytbghjcfepjbppaa
