/-
  THE MAP OF LETTERS IN MEMORY: numbers to texts.
-/
import Derived.Test.YtkdaifcnlobhkaaNfr
import Derived.Maps.OwnSet
import Derived.Maps.Ext
import Derived.OwnWalk
namespace Go.Proofs.Ytkdaifcnlobhkaa
open Go.RowKit
open Go.Maps (Keyed)
/-- a letter: its text -/
abbrev Tx := ByteArray
def Rv (v : Value) : Option (DataW Value × List MemPlace) := some (.held v, [])
def key (n : Int) : Lit := .int .i64 n
def letV (s : Tx) : Value := .agg #[.string s]
def noL : Value := letV ⟨#[]⟩
theorem law3 : Keyed Try.prog 3 := Maps.int_keyed Try.underlying3
theorem key_inj {s t : Int} (h : key s = key t) : s = t := by
  unfold key at h
  simp only [Lit.int.injEq] at h
  exact h.2
def I64 (n : Int) : Prop := -9223372036854775808 ≤ n ∧ n ≤ 9223372036854775807
theorem keyOf_key {n : Int} (h : I64 n) : keyOf Try.prog 3 (.int .i64 n) = some (key n) :=
  Maps.keyOf_int_mk Try.underlying3 (by unfold I64 at h; show (decide ((-9223372036854775808 : Int) ≤ n) && decide (n ≤ 9223372036854775807)) = true; simp [h.1, h.2])
theorem isKey (s : Int) : WideAt.IsKeyLit (key s) := by unfold key; trivial
theorem key_ne {s t : Int} (h : t ≠ s) : key t ≠ key s := fun e => h (key_inj e)
/-- the texts by their numbers -/
abbrev Lf := Int → Option Tx
def upd (F : Lf) (n : Int) (o : Option Tx) : Lf := fun t => if t = n then o else F t
theorem upd_same (F : Lf) (n : Int) (o : Option Tx) : upd F n o n = o := by simp [upd]
theorem upd_other (F : Lf) {n t : Int} (o : Option Tx) (h : t ≠ n) : upd F n o t = F t := by simp [upd, h]
def valO (o : Option Tx) : Value := letV (o.getD ⟨#[]⟩)
/-- THE MAP IN BLOCK M HOLDS THE LETTERS F, at most n of them -/
structure Lts (w : World) (M n : Nat) (F : Lf) : Prop where
  map : ∃ D, w.ownsMap Try.prog 3 Rv M n D ∧ (∀ s, Maps.has D (key s) = (F s).isSome) ∧ ∀ s, D.atKey (key s) (.held noL) = .held (valO (F s))
theorem Lts.lt {w : World} {M n : Nat} {F : Lf} (h : Lts w M n F) : M < w.heap.size := by
  obtain ⟨D, hD, _⟩ := h.map
  exact hD.lt
theorem Lts.kept {w w' : World} {M n : Nat} {F : Lf} (h : Lts w M n F) (hb : w'.heap[M]? = w.heap[M]?) : Lts w' M n F := by
  obtain ⟨D, hD, h1, h2⟩ := h.map
  obtain ⟨es, clock, hh, rest⟩ := hD
  exact ⟨D, ⟨es, clock, hb.trans hh, rest⟩, h1, h2⟩
theorem Lts.fr {w w' : World} {M n : Nat} {F : Lf} {P : Nat → Prop} (h : Lts w M n F) (f : Fr w w' P) (hP : ¬ P M) : Lts w' M n F := h.kept (f.block M h.lt hP)
theorem Lts.next {w w' : World} {M n : Nat} {F : Lf} (h : Lts w M n F) (b : Below w.heap.size w w') : Lts w' M n F := h.kept (b.block M h.lt)
theorem Lts.nblk {w : World} {M n : Nat} {F : Lf} (h : Lts w M n F) {g t : Nat} {cs : Array Value} (k : Blk w g t cs) : ¬ g = M := by
  rintro rfl
  obtain ⟨D, hD, _⟩ := h.map
  obtain ⟨es, clock, hh, _⟩ := hD
  unfold Blk at k
  rw [hh] at k
  cases k
theorem zero83 (w : World) : (zeroValue 83).run Try.prog w = .ok noL w := by kernel_rfl
theorem Lts.look {w : World} {M n : Nat} {F : Lf} (h : Lts w M n F) {s : Int} (hs : I64 s) : (Instr.lookup 58 (.map (some M)) (.int .i64 s) false).run Try.prog w = .ok (valO (F s)) w := by
  obtain ⟨D, hD, _, h2⟩ := h.map
  obtain ⟨v, ps, hrun, hv⟩ := hD.lookup law3 Try.underlying58 (zero83 w) (zd := .held noL) (zp := []) rfl (keyOf_key hs)
  rw [h2] at hv
  unfold Rv at hv
  simp only [Option.some.injEq, Prod.mk.injEq, DataW.held.injEq] at hv
  rw [hrun, hv.1]
theorem Lts.look_ok {w : World} {M n : Nat} {F : Lf} (h : Lts w M n F) {s : Int} (hs : I64 s) : (Instr.lookup 58 (.map (some M)) (.int .i64 s) true).run Try.prog w = .ok (.tuple #[valO (F s), .bool (F s).isSome]) w := by
  obtain ⟨D, hD, h1, h2⟩ := h.map
  obtain ⟨v, ps, hrun, hv⟩ := hD.look_ok law3 Try.underlying58 (zero83 w) (zd := .held noL) (zp := []) rfl (keyOf_key hs)
  rw [h2] at hv
  unfold Rv at hv
  simp only [Option.some.injEq, Prod.mk.injEq, DataW.held.injEq] at hv
  rw [hrun, hv.1, h1]
/-- 'm[s] = v' -/
theorem Lts.store {w : World} {M n : Nat} {F : Lf} (h : Lts w M n F) {s : Int} (hs : I64 s) (hn : n < maxLen) (x : Tx) :
    ∃ w', (Instr.mapUpdate 58 (.map (some M)) (.int .i64 s) (letV x)).run Try.prog w = .ok () w' ∧ Lts w' M (n + 1) (upd F s (some x)) ∧ Fr w w' (fun q => q = M) ∧ w'.heap.size = w.heap.size := by
  obtain ⟨D, hD, h1, h2⟩ := h.map
  obtain ⟨w', hrun, hD', ht⟩ := hD.store law3 Try.underlying58 hn (keyOf_key hs) (d := .held (letV x)) (ps := []) rfl
  obtain ⟨es, clock, es', clock', hb, hw'⟩ := ht
  have hg : w.grownBy w' (some M) := by
    rw [hw']
    exact ⟨rfl, rfl, rfl, by simp [ChangeMaps.setBlock], fun i _ hi => ChangeMaps.heap_setBlock_other hb _ (fun e => hi (by rw [e]))⟩
  have hz : w'.heap.size = w.heap.size := by rw [hw']; simp [ChangeMaps.setBlock]
  have hm : Maps.IsMap D := by
    obtain ⟨es, _, _, _, _, rfl⟩ := hD
    exact ⟨_, rfl⟩
  refine ⟨w', hrun, ⟨⟨_, hD', fun t => ?_, fun t => ?_⟩⟩, (Fr.of_grown hg).mono (fun q _ e => by injection e), hz⟩
  · by_cases e : t = s
    · subst e
      rw [Maps.has_put_same hm (isKey t), upd_same]; rfl
    · rw [Maps.has_put_other (key_ne e), upd_other F _ e, h1]
  · by_cases e : t = s
    · subst e
      rw [Maps.atKey_put_same hm (isKey t), upd_same]; rfl
    · rw [Maps.atKey_put_other (key_ne e), upd_other F _ e, h2]
/-- 'delete(m, s)' -/
theorem Lts.strike {w : World} {M n : Nat} {F : Lf} (h : Lts w M n F) {s : Int} (hs : I64 s) (ty : TypeId) :
    ∃ w', (Builtin.delete_ #[58, 3] ty #[.map (some M), .int .i64 s]).run Try.prog w = .ok (.tuple #[]) w' ∧ Lts w' M n (upd F s none) ∧ Fr w w' (fun q => q = M) ∧ w'.heap.size = w.heap.size := by
  obtain ⟨D, hD, h1, h2⟩ := h.map
  obtain ⟨w', hrun, hD', ht⟩ := hD.drop law3 Try.underlying58 (keyOf_key hs) ty
  obtain ⟨es, clock, es', clock', hb, hw'⟩ := ht
  have hg : w.grownBy w' (some M) := by
    rw [hw']
    exact ⟨rfl, rfl, rfl, by simp [ChangeMaps.setBlock], fun i _ hi => ChangeMaps.heap_setBlock_other hb _ (fun e => hi (by rw [e]))⟩
  have hz : w'.heap.size = w.heap.size := by rw [hw']; simp [ChangeMaps.setBlock]
  refine ⟨w', hrun, ⟨⟨_, hD', fun t => ?_, fun t => ?_⟩⟩, (Fr.of_grown hg).mono (fun q _ e => by injection e), hz⟩
  · by_cases e : t = s
    · subst e
      rw [Maps.has_del_same, upd_same]; rfl
    · rw [Maps.has_del_other (key_ne e), upd_other F _ e, h1]
  · by_cases e : t = s
    · subst e
      rw [Maps.atKey_del_same, upd_same]; rfl
    · rw [Maps.atKey_del_other (key_ne e), upd_other F _ e, h2]
/-- 'map[int]letter{}' -/
theorem Lts.made (w : World) : Lts (w.alloc (.map #[] 0)) w.heap.size 0 (fun _ => none) :=
  ⟨⟨.map [], World.ownsMap_made _ _ _ _, fun _ => rfl, fun _ => rfl⟩⟩
theorem Lts.mono {w : World} {M n n' : Nat} {F : Lf} (h : Lts w M n F) (hn : n ≤ n') : Lts w M n' F := by
  obtain ⟨D, hD, h1, h2⟩ := h.map
  exact ⟨D, hD.mono hn, h1, h2⟩
end Go.Proofs.Ytkdaifcnlobhkaa
