/-
  FILES AS A LIST OF NAMES AND BYTES; the map in memory that holds them.
-/
import Derived.Test.YtejmoaloomnmkaaProg
import Derived.Maps.OwnSet
import Derived.Maps.Ext
import Derived.OwnWalk
import Derived.Laws.OwnMore
import Derived.Laws.AppendOwn
import Derived.Lib.Hide
namespace Go.Proofs.Ytejmoaloomnmkaa
open Go.RowKit
open Go.Maps (Keyed)
/-! ### plain files -/
abbrev Nm := ByteArray
abbrev Fm := List (Nm × List UInt8)
def get (fs : Fm) (s : Nm) : Option (List UInt8) := (fs.find? fun p => decide (p.1 = s)).map (·.2)
def gl (fs : Fm) (s : Nm) : List UInt8 := (get fs s).getD []
def del (fs : Fm) (s : Nm) : Fm := fs.filter fun p => decide (p.1 ≠ s)
def put (fs : Fm) (s : Nm) (l : List UInt8) : Fm := (s, l) :: del fs s
def sz (fs : Fm) : Nat := (fs.map fun p => p.2.length).sum
def Uniq (fs : Fm) : Prop := fs.Pairwise fun p q => p.1 ≠ q.1
theorem get_put_same (fs : Fm) (s : Nm) (l : List UInt8) : get (put fs s l) s = some l := by
  unfold get put
  rw [List.find?_cons]
  simp
theorem get_del_same (fs : Fm) (s : Nm) : get (del fs s) s = none := by
  unfold get del
  rw [List.find?_eq_none.2]
  · rfl
  · intro x hx
    have := (List.mem_filter.1 hx).2
    simpa using this
theorem get_del_other {fs : Fm} {s t : Nm} (h : t ≠ s) : get (del fs s) t = get fs t := by
  unfold get del
  induction fs with
  | nil => rfl
  | cons p fs ih =>
    rw [List.filter_cons]
    by_cases hp : p.1 = s
    · have e1 : decide (p.1 ≠ s) = false := by simp [hp]
      have e2 : decide (p.1 = t) = false := by rw [hp]; exact decide_eq_false (fun e => h e.symm)
      rw [e1, List.find?_cons, e2]
      exact ih
    · have e1 : decide (p.1 ≠ s) = true := by simpa using hp
      rw [e1]
      simp only [if_true]
      rw [List.find?_cons, List.find?_cons]
      split
      · rfl
      · exact ih
theorem get_put_other {fs : Fm} {s t : Nm} (l : List UInt8) (h : t ≠ s) : get (put fs s l) t = get fs t := by
  have e2 : decide ((s, l).1 = t) = false := decide_eq_false (fun e => h e.symm)
  have : get (put fs s l) t = get (del fs s) t := by
    unfold get put
    rw [List.find?_cons, e2]
  rw [this, get_del_other h]
theorem gl_put_same (fs : Fm) (s : Nm) (l : List UInt8) : gl (put fs s l) s = l := by unfold gl; rw [get_put_same]; rfl
theorem gl_put_other {fs : Fm} {s t : Nm} (l : List UInt8) (h : t ≠ s) : gl (put fs s l) t = gl fs t := by unfold gl; rw [get_put_other l h]
theorem gl_del_same (fs : Fm) (s : Nm) : gl (del fs s) s = [] := by unfold gl; rw [get_del_same]; rfl
theorem gl_del_other {fs : Fm} {s t : Nm} (h : t ≠ s) : gl (del fs s) t = gl fs t := by unfold gl; rw [get_del_other h]
theorem uniq_del {fs : Fm} (h : Uniq fs) (s : Nm) : Uniq (del fs s) := List.Pairwise.filter _ h
theorem uniq_put {fs : Fm} (h : Uniq fs) (s : Nm) (l : List UInt8) : Uniq (put fs s l) := by
  refine List.Pairwise.cons (fun p hp => ?_) (uniq_del h s)
  have := of_decide_eq_true (List.mem_filter.1 hp).2
  exact fun e => this e.symm
theorem sz_del {fs : Fm} (h : Uniq fs) (s : Nm) : sz (del fs s) + (gl fs s).length = sz fs := by
  unfold sz gl get del
  induction fs with
  | nil => rfl
  | cons p fs ih =>
    have ih := ih (List.Pairwise.of_cons h)
    rw [List.filter_cons, List.find?_cons]
    by_cases hp : p.1 = s
    · have e1 : decide (p.1 ≠ s) = false := by simp [hp]
      have e2 : decide (p.1 = s) = true := by simp [hp]
      have e3 : fs.filter (fun q => decide (q.1 ≠ s)) = fs := List.filter_eq_self.2 (fun q hq => by
        have := List.rel_of_pairwise_cons h hq
        rw [hp] at this
        exact decide_eq_true (fun e => this e.symm))
      rw [e1, e2]
      simp only [Bool.false_eq_true, if_false]
      rw [e3]
      simp
      omega
    · have e1 : decide (p.1 ≠ s) = true := by simpa using hp
      have e2 : decide (p.1 = s) = false := by simpa using hp
      rw [e1, e2]
      simp only [if_true, List.map_cons, List.sum_cons]
      omega
theorem sz_put {fs : Fm} (h : Uniq fs) (s : Nm) (l : List UInt8) : sz (put fs s l) + (gl fs s).length = sz fs + l.length := by
  have := sz_del h s
  unfold put
  have e : sz ((s, l) :: del fs s) = l.length + sz (del fs s) := by simp [sz]
  rw [e]
  omega
theorem len_put (fs : Fm) (s : Nm) (l : List UInt8) : (put fs s l).length ≤ fs.length + 1 := by
  unfold put del
  have := List.length_filter_le (fun p : Nm × List UInt8 => decide (p.1 ≠ s)) fs
  simp only [List.length_cons]
  omega
theorem len_del (fs : Fm) (s : Nm) : (del fs s).length ≤ fs.length := List.length_filter_le _ _
/-! ### the map in memory -/
def bcells (l : List UInt8) : List Value := l.map fun b => .int .u8 (b.toNat : Int)
theorem bcells_len (l : List UInt8) : (bcells l).length = l.length := by simp [bcells]
def Rv (v : Value) : Option (DataW Value × List MemPlace) := some (.held v, [])
def key (s : Nm) : Lit := .string s.data.toList
def nilS : Value := .slice none 0 0
theorem law9 : Keyed Try.prog 9 := Maps.string_keyed Try.underlying9
theorem key_inj {s t : Nm} (h : key s = key t) : s = t := by
  unfold key at h
  simp only [Lit.string.injEq] at h
  have := Array.toList_inj.1 h
  cases s; cases t; simp_all
theorem keyOf_key {s : Nm} (h : s.size ≤ maxLen) : keyOf Try.prog 9 (.string s) = some (key s) := by
  simp [keyOf, mapKey, Try.underlying9, key, h]
/-- THE MAP IN BLOCK M HOLDS THE FILES fs; the slice of the file s is V s (nil, where there is none); no two lie in one block -/
structure Fls (w : World) (B M n : Nat) (fs : Fm) (V : Nm → Value) : Prop where
  map : ∃ D, w.ownsMap Try.prog 9 Rv M n D ∧ (∀ s, Maps.has D (key s) = (get fs s).isSome) ∧ ∀ s, D.atKey (key s) (.held nilS) = .held (V s)
  own : ∀ s, w.ownsRow B 5 1 (V s) (gl fs s).length (bcells (gl fs s))
  apart : ∀ s t, s ≠ t → (V s).ownBlock = none ∨ (V s).ownBlock ≠ (V t).ownBlock
  off : B ≤ M ∧ ∀ s, (V s).ownBlock ≠ some M
/-- the blocks that they lie in -/
def Foot (M : Nat) (V : Nm → Value) (q : Nat) : Prop := q = M ∨ ∃ s, (V s).ownBlock = some q
theorem Fls.lt {w : World} {B M n : Nat} {fs : Fm} {V : Nm → Value} (h : Fls w B M n fs V) {q : Nat} (hq : Foot M V q) : B ≤ q ∧ q < w.heap.size := by
  rcases hq with rfl | ⟨s, e⟩
  · obtain ⟨D, hD, _⟩ := h.map
    exact ⟨h.off.1, hD.lt⟩
  · exact World.ownsRow.lt (h.own s) q e
/-- what is elsewhere may turn -/
theorem Fls.kept {w w' : World} {B M n : Nat} {fs : Fm} {V : Nm → Value} (h : Fls w B M n fs V) (_hs : w.heap.size ≤ w'.heap.size) (hb : ∀ q, q < w.heap.size → Foot M V q → w'.heap[q]? = w.heap[q]?) : Fls w' B M n fs V := by
  obtain ⟨⟨D, hD, h1, h2⟩, h3, h4, h5⟩ := h
  refine ⟨⟨D, ?_, h1, h2⟩, fun s => ?_, h4, h5⟩
  · have hl := hD.lt
    obtain ⟨es, clock, hh, rest⟩ := hD
    exact ⟨es, clock, (hb M hl (.inl rfl)).trans hh, rest⟩
  · have hr := h3 s
    refine ⟨hr.1, ?_⟩
    rcases hr.2 with hn | ⟨g, cap, cur, e, hB, hh, rest⟩
    · exact .inl hn
    · refine .inr ⟨g, cap, cur, e, hB, ?_, rest⟩
      rw [hb g (Array.getElem?_eq_some_iff.1 hh).1 (.inr ⟨s, by rw [e]; rfl⟩)]
      exact hh
theorem Fls.below {w w' : World} {B M n : Nat} {fs : Fm} {V : Nm → Value} (h : Fls w B M n fs V) (hb : Below w.heap.size w w') : Fls w' B M n fs V := h.kept hb.size (fun q hq _ => hb.block q hq)
theorem zero55 (w : World) : (zeroValue 55).run Try.prog w = .ok nilS w := by kernel_rfl
theorem Fls.look {w : World} {B M n : Nat} {fs : Fm} {V : Nm → Value} (h : Fls w B M n fs V) {s : Nm} (hs : s.size ≤ maxLen) : (Instr.lookup 48 (.map (some M)) (.string s) false).run Try.prog w = .ok (V s) w := by
  obtain ⟨⟨D, hD, _, h2⟩, _⟩ := h
  obtain ⟨v, ps, hrun, hv⟩ := hD.lookup law9 Try.underlying48 (zero55 w) (zd := .held nilS) (zp := []) rfl (keyOf_key hs)
  rw [h2] at hv
  unfold Rv at hv
  simp only [Option.some.injEq, Prod.mk.injEq, DataW.held.injEq] at hv
  rw [hrun, hv.1]
theorem Fls.look_ok {w : World} {B M n : Nat} {fs : Fm} {V : Nm → Value} (h : Fls w B M n fs V) {s : Nm} (hs : s.size ≤ maxLen) : (Instr.lookup 48 (.map (some M)) (.string s) true).run Try.prog w = .ok (.tuple #[V s, .bool (get fs s).isSome]) w := by
  obtain ⟨⟨D, hD, h1, h2⟩, _⟩ := h
  obtain ⟨v, ps, hrun, hv⟩ := hD.look_ok law9 Try.underlying48 (zero55 w) (zd := .held nilS) (zp := []) rfl (keyOf_key hs)
  rw [h2] at hv
  unfold Rv at hv
  simp only [Option.some.injEq, Prod.mk.injEq, DataW.held.injEq] at hv
  rw [hrun, hv.1, h1]
/-- the same but for one name -/
def upd (V : Nm → Value) (s : Nm) (v : Value) : Nm → Value := fun t => if t = s then v else V t
theorem upd_same (V : Nm → Value) (s : Nm) (v : Value) : upd V s v s = v := by simp [upd]
theorem upd_other (V : Nm → Value) {s t : Nm} (v : Value) (h : t ≠ s) : upd V s v t = V t := by simp [upd, h]
theorem isKey (s : Nm) : WideAt.IsKeyLit (key s) := by unfold key; trivial
theorem key_ne {s t : Nm} (h : t ≠ s) : key t ≠ key s := fun e => h (key_inj e)
/-- 'm[s] = v' -/
theorem Fls.store {w : World} {B M n : Nat} {fs : Fm} {V : Nm → Value} (h : Fls w B M n fs V) {s : Nm} (hs : s.size ≤ maxLen) (hn : n < maxLen) {v : Value} {l : List UInt8} (ho : w.ownsRow B 5 1 v l.length (bcells l))
    (hv : ∀ t, t ≠ s → v.ownBlock = none ∨ v.ownBlock ≠ (V t).ownBlock) (hM : v.ownBlock ≠ some M) :
    ∃ w', (Instr.mapUpdate 48 (.map (some M)) (.string s) v).run Try.prog w = .ok () w' ∧ Fls w' B M (n + 1) (put fs s l) (upd V s v) ∧ w.grownBy w' (some M) ∧ w'.heap.size = w.heap.size := by
  obtain ⟨⟨D, hD, h1, h2⟩, h3, h4, h5⟩ := h
  obtain ⟨w', hrun, hD', ht⟩ := hD.store law9 Try.underlying48 hn (keyOf_key hs) (d := .held v) (ps := []) rfl
  obtain ⟨es, clock, es', clock', hb, hw'⟩ := ht
  have hg : w.grownBy w' (some M) := by
    rw [hw']
    exact ⟨rfl, rfl, rfl, by simp [ChangeMaps.setBlock], fun i _ hi => ChangeMaps.heap_setBlock_other hb _ (fun e => hi (by rw [e]))⟩
  have hz : w'.heap.size = w.heap.size := by rw [hw']; simp [ChangeMaps.setBlock]
  have hm : Maps.IsMap D := by
    obtain ⟨es, _, _, _, _, rfl⟩ := hD
    exact ⟨_, rfl⟩
  refine ⟨w', hrun, ⟨⟨_, hD', fun t => ?_, fun t => ?_⟩, fun t => ?_, fun t u htu => ?_, h5.1, fun t => ?_⟩, hg, hz⟩
  · by_cases e : t = s
    · subst e
      rw [Maps.has_put_same hm (isKey t), get_put_same]; rfl
    · rw [Maps.has_put_other (key_ne e), get_put_other l e, h1]
  · by_cases e : t = s
    · subst e
      rw [Maps.atKey_put_same hm (isKey t), upd_same]
    · rw [Maps.atKey_put_other (key_ne e), upd_other V v e, h2]
  · by_cases e : t = s
    · subst e
      rw [upd_same, gl_put_same]
      exact World.ownsRow.kept ho hg (.inr hM)
    · rw [upd_other V v e, gl_put_other l e]
      exact World.ownsRow.kept (h3 t) hg (.inr (h5.2 t))
  · by_cases e : t = s
    · subst e
      rw [upd_same, upd_other V v htu.symm]
      exact hv u htu.symm
    · by_cases e2 : u = s
      · subst e2
        rw [upd_same, upd_other V v e]
        rcases hv t e with h | h
        · rw [h]
          rcases hq : (V t).ownBlock with _ | q
          · exact .inl rfl
          · exact .inr (by simp)
        · exact .inr (fun h' => h h'.symm)
      · rw [upd_other V v e, upd_other V v e2]
        exact h4 t u htu
  · by_cases e : t = s
    · subst e; rw [upd_same]; exact hM
    · rw [upd_other V v e]; exact h5.2 t
/-- 'delete(m, s)' -/
theorem Fls.strike {w : World} {B M n : Nat} {fs : Fm} {V : Nm → Value} (h : Fls w B M n fs V) {s : Nm} (hs : s.size ≤ maxLen) (ty : TypeId) :
    ∃ w', (Builtin.delete_ #[48, 9] ty #[.map (some M), .string s]).run Try.prog w = .ok (.tuple #[]) w' ∧ Fls w' B M n (del fs s) (upd V s nilS) ∧ w.grownBy w' (some M) ∧ w'.heap.size = w.heap.size := by
  obtain ⟨⟨D, hD, h1, h2⟩, h3, h4, h5⟩ := h
  obtain ⟨w', hrun, hD', ht⟩ := hD.drop law9 Try.underlying48 (keyOf_key hs) ty
  obtain ⟨es, clock, es', clock', hb, hw'⟩ := ht
  have hg : w.grownBy w' (some M) := by
    rw [hw']
    exact ⟨rfl, rfl, rfl, by simp [ChangeMaps.setBlock], fun i _ hi => ChangeMaps.heap_setBlock_other hb _ (fun e => hi (by rw [e]))⟩
  have hz : w'.heap.size = w.heap.size := by rw [hw']; simp [ChangeMaps.setBlock]
  refine ⟨w', hrun, ⟨⟨_, hD', fun t => ?_, fun t => ?_⟩, fun t => ?_, fun t u htu => ?_, h5.1, fun t => ?_⟩, hg, hz⟩
  · by_cases e : t = s
    · subst e
      rw [Maps.has_del_same, get_del_same]; rfl
    · rw [Maps.has_del_other (key_ne e), get_del_other e, h1]
  · by_cases e : t = s
    · subst e
      rw [Maps.atKey_del_same, upd_same]
    · rw [Maps.atKey_del_other (key_ne e), upd_other V nilS e, h2]
  · by_cases e : t = s
    · subst e
      rw [upd_same, gl_del_same]
      exact World.ownsRow_nil _ _ _ _
    · rw [upd_other V nilS e, gl_del_other e]
      exact World.ownsRow.kept (h3 t) hg (.inr (h5.2 t))
  · by_cases e : t = s
    · subst e
      rw [upd_same]
      exact .inl rfl
    · by_cases e2 : u = s
      · subst e2
        rw [upd_same, upd_other V nilS e]
        rcases hq : (V t).ownBlock with _ | q
        · exact .inl rfl
        · exact .inr (by simp [nilS, Value.ownBlock])
      · rw [upd_other V nilS e, upd_other V nilS e2]
        exact h4 t u htu
  · by_cases e : t = s
    · subst e; rw [upd_same]; simp [nilS, Value.ownBlock]
    · rw [upd_other V nilS e]; exact h5.2 t
/-- 'map[string][]byte{}' -/
theorem Fls.made (w : World) {B : Nat} (hB : B ≤ w.heap.size) : Fls (w.alloc (.map #[] 0)) B w.heap.size 0 [] (fun _ => nilS) :=
  ⟨⟨.map [], World.ownsMap_made _ _ _ _, fun _ => rfl, fun _ => rfl⟩, fun _ => World.ownsRow_nil _ _ _ _, fun _ _ _ => .inl rfl, hB, fun _ => by simp [nilS, Value.ownBlock]⟩
theorem Fls.mono {w : World} {B M n n' : Nat} {fs : Fm} {V : Nm → Value} (h : Fls w B M n fs V) (hn : n ≤ n') : Fls w B M n' fs V := by
  obtain ⟨⟨D, hD, h1, h2⟩, h3, h4, h5⟩ := h
  exact ⟨⟨D, hD.mono hn, h1, h2⟩, h3, h4, h5⟩
end Go.Proofs.Ytejmoaloomnmkaa
