/-
  FILES: set, drop.
-/
import Derived.Test.YtejmoaloomnmkaaMap
import Derived.BigRegion
import Derived.WalkKit
import Derived.Deep.QuietTactic
import Derived.BigQuiet
namespace Go.Proofs.Ytejmoaloomnmkaa
open Go.RowKit
/-- nothing old has turned but where P says -/
structure Fr (w w' : World) (P : Nat → Prop) : Prop where
  os : w'.os = w.os
  tape : w'.tape = w.tape
  output : w'.output = w.output
  size : w.heap.size ≤ w'.heap.size
  block : ∀ q, q < w.heap.size → ¬ P q → w'.heap[q]? = w.heap[q]?
theorem Fr.refl (w : World) (P : Nat → Prop) : Fr w w P := ⟨rfl, rfl, rfl, Nat.le_refl _, fun _ _ _ => rfl⟩
theorem Fr.trans {a b c : World} {P Q R : Nat → Prop} (h : Fr a b P) (k : Fr b c Q) (hP : ∀ q, q < a.heap.size → P q → R q) (hQ : ∀ q, q < a.heap.size → Q q → R q) : Fr a c R :=
  ⟨k.os.trans h.os, k.tape.trans h.tape, k.output.trans h.output, Nat.le_trans h.size k.size, fun q hq hR => (k.block q (Nat.lt_of_lt_of_le hq h.size) (fun hh => hR (hQ q hq hh))).trans (h.block q hq (fun hh => hR (hP q hq hh)))⟩
theorem Fr.of_grown {w w' : World} {r : Option Nat} (h : w.grownBy w' r) : Fr w w' (fun q => some q = r) := ⟨h.os, h.tape, h.output, h.size, fun q hq hne => h.block q hq hne⟩
theorem Fr.of_below {w w' : World} (h : Below w.heap.size w w') (P : Nat → Prop) : Fr w w' P := ⟨h.os, h.tape, h.output, h.size, fun q hq _ => h.block q hq⟩
theorem Fr.mono {w w' : World} {P Q : Nat → Prop} (h : Fr w w' P) (hPQ : ∀ q, q < w.heap.size → P q → Q q) : Fr w w' Q := ⟨h.os, h.tape, h.output, h.size, fun q hq hn => h.block q hq (fun hh => hn (hPQ q hq hh))⟩
theorem Fr.below {w w' : World} {B : Nat} {P : Nat → Prop} (h : Fr w w' P) (hP : ∀ q, P q → B ≤ q) (hB : B ≤ w.heap.size) : Below B w w' := ⟨h.os, h.tape, h.output, h.size, fun q hq => h.block q (Nat.lt_of_lt_of_le hq hB) (fun hh => by have := hP q hh; omega)⟩
/-- a block that is known whole -/
def Blk (w : World) (g : Nat) (t : TypeId) (cs : Array Value) : Prop := w.heap[g]? = some (.cells cs t (0, 0))
section
variable {w w' : World} {g : Nat} {t : TypeId} {cs : Array Value}
theorem Blk.lt (h : Blk w g t cs) : g < w.heap.size := (Array.getElem?_eq_some_iff.1 h).1
theorem Blk.cell (h : Blk w g t cs) (i : Nat) : w.cell? ⟨g, i, none⟩ = cs[i]? := cell_of_row w g i cs t (0, 0) h
theorem Blk.free (h : Blk w g t cs) (i : Nat) : w.frozen? ⟨g, i, none⟩ = false := by unfold Blk at h; simp [World.frozen?, h]
theorem Blk.new (w : World) (t : TypeId) (cs : Array Value) : Blk (w.alloc (.cells cs t)) w.heap.size t cs := heap_alloc_new w _
theorem Blk.set (h : Blk w g t cs) (i : Nat) (u : Value) : Blk (w.setCell ⟨g, i, none⟩ u) g t (cs.setIfInBounds i u) := by
  unfold Blk at h ⊢
  simp [World.setCell, Array.getElem?_modify, h]
theorem Blk.fr {P : Nat → Prop} (h : Blk w g t cs) (hf : Fr w w' P) (hP : ¬ P g) : Blk w' g t cs := (hf.block g h.lt hP).trans h
theorem Blk.below {B : Nat} (h : Blk w g t cs) (hb : Below B w w') (hg : g < B) : Blk w' g t cs := (hb.block g hg).trans h
end
theorem Fls.fr {w w' : World} {B M n : Nat} {fs : Fm} {V : Nm → Value} {P : Nat → Prop} (h : Fls w B M n fs V) (hf : Fr w w' P) (hP : ∀ q, Foot M V q → ¬ P q) : Fls w' B M n fs V :=
  h.kept hf.size (fun q hq hF => hf.block q hq (hP q hF))
theorem fr_set (w : World) (g i : Nat) (u : Value) : Fr w (w.setCell ⟨g, i, none⟩ u) (fun q => q = g) :=
  ⟨rfl, rfl, rfl, by simp [World.setCell], fun q _ hne => Below.heap_setCell _ _ _ _ hne⟩
theorem fr_drew (w : World) (P : Nat → Prop) : Fr w w.drew P := ⟨rfl, rfl, rfl, Nat.le_refl _, fun _ _ _ => rfl⟩
theorem own_form {w : World} {B : Nat} {v : Value} {n : Nat} {xs : List Value} (h : w.ownsRow B 5 1 v n xs) : ∃ a c, v = .slice a n c := by
  rcases h.2 with ⟨rfl, e⟩ | ⟨g, cap, cur, rfl, _⟩
  · exact ⟨none, 0, by rw [e]⟩
  · exact ⟨_, _, rfl⟩
theorem below_drewN {B : Nat} {a w : World} (h : Below B a w) (n : Nat) : Below B a (w.drewN n) := ⟨h.os, h.tape, h.output, h.size, h.block⟩
/-- what set and drop leave -/
def Setd (w : World) (B D M n T o : Nat) (cs : Array Value) (fs : Fm) (V : Nm → Value) (u : Int) (e : Ending) (w' : World) : Prop :=
  e = .returned (.tuple #[]) ∧ Fls w' B M n fs V ∧ Blk w' D T (cs.setIfInBounds (o + 1) (.int .i64 u)) ∧ Fr w w' (fun q => q = D ∨ q = M)
set_option maxHeartbeats 2000000 in
set_option maxRecDepth 100000 in
theorem set_any {w : World} {B D M n T o : Nat} {cs : Array Value} {fs : Fm} {V : Nm → Value} {s : Nm} {a : Option Addr} {l : List UInt8} {c : Nat} {u : Int} (h : Fls w B M n fs V) (hB : Blk w D T cs) (h0 : cs[o]? = some (.map (some M))) (h1 : cs[o + 1]? = some (.int .i64 u)) (hF : ¬ Foot M V D)
    (hs : s.size ≤ 9223372036854775807) (hn : n < 1000000) (hu0 : 0 ≤ u) (hu1 : u ≤ 4611686018427387904) (hl : l.length ≤ 4194304) (hg : (gl fs s).length ≤ 4194304) (hgu : ((gl fs s).length : Int) ≤ u) (ho : w.ownsRow B 5 1 (.slice a l.length c) l.length (bcells l))
    (hv : ∀ t, t ≠ s → (Value.slice a l.length c).ownBlock = none ∨ (Value.slice a l.length c).ownBlock ≠ (V t).ownBlock) (hM : (Value.slice a l.length c).ownBlock ≠ some M) (hvD : (Value.slice a l.length c).ownBlock ≠ some D) :
    Calls Try.prog 46 #[.pointer (some ⟨D, o, none⟩), .string s, .slice a l.length c] w (Setd w B D M (n + 1) T o cs (put fs s l) (upd V s (.slice a l.length c)) (u + (l.length - (gl fs s).length))) := by
  have hs' : s.size ≤ maxLen := by unfold maxLen; omega
  have hDM : D ≠ M := fun e => hF (.inl e)
  have c0 : w.cell? ⟨D, o, none⟩ = some (.map (some M)) := by rw [hB.cell]; exact h0
  have c1 : w.cell? ⟨D, o + 1, none⟩ = some (.int .i64 u) := by rw [hB.cell]; exact h1
  have f1 := hB.free (o + 1)
  obtain ⟨av, cv, hV⟩ := own_form (h.own s)
  have LK : (Instr.lookup 48 (.map (some M)) (.string s) false).run Try.prog w = .ok (.slice av (gl fs s).length cv) w := by rw [h.look hs', hV]
  have LD : (Instr.lookup 48 (.map (some M)) (.string s) false).run Try.prog w.drew = .ok (.slice av (gl fs s).length cv) w.drew := by
    have h2 : Fls w.drew B M n fs V := h.below (below_drewN (Below.refl _ _) 1)
    rw [h2.look hs', hV]
  obtain ⟨w2, hw2, h2, B2, F2, o2⟩ : ∃ w2, w2 = (w.setCell ⟨D, o + 1, none⟩ (.int .i64 (u + ((l.length : Int) - (gl fs s).length)))).drew ∧ Fls w2 B M n fs V ∧ Blk w2 D T (cs.setIfInBounds (o + 1) (.int .i64 (u + ((l.length : Int) - (gl fs s).length)))) ∧ Fr w w2 (fun q => q = D) ∧ w2.ownsRow B 5 1 (.slice a l.length c) l.length (bcells l) := by
    have F := (fr_set w D (o + 1) (.int .i64 (u + ((l.length : Int) - (gl fs s).length)))).trans (fr_drew _ (fun _ => False)) (fun _ _ h => h) (fun _ _ h => h.elim)
    refine ⟨_, rfl, h.fr F (fun q hq e => hF (e ▸ hq)), hB.set _ _, F, ?_⟩
    exact World.ownsRow.kept ho ⟨F.os, F.tape, F.output, F.size, fun q hq hne => F.block q hq (fun e => hne (by rw [e]))⟩ (.inr hvD)
  obtain ⟨w3, hrun, h3, g3, z3⟩ := h2.store hs' (by unfold maxLen; omega) o2 hv hM
  have B3 : Blk w3 D T (cs.setIfInBounds (o + 1) (.int .i64 (u + ((l.length : Int) - (gl fs s).length)))) := B2.fr (Fr.of_grown g3) (by simpa using hDM)
  have c3 : w2.cell? ⟨D, o, none⟩ = some (.map (some M)) := by rw [B2.cell]; rw [Array.getElem?_setIfInBounds_ne (by omega)]; exact h0
  have FIN := Lib.hid (show Setd w B D M (n + 1) T o cs (put fs s l) (upd V s (.slice a l.length c)) (u + (l.length - (gl fs s).length)) (.returned (.tuple #[])) w3 from
    ⟨rfl, h3, B3, F2.trans (Fr.of_grown g3) (fun q _ e => .inl e) (fun q _ e => .inr (by simpa using e))⟩)
  have W2 := Lib.hid hw2
  have hg2 : ((gl fs s).length : Int) ≤ 4194304 := by omega
  have hl2 : (l.length : Int) ≤ 4194304 := by omega
  clear h2 B2 F2 o2 h3 g3 z3 B3 hV ho hv hM hvD h hB h0 h1 hw2
  generalize (gl fs s).length = g at *
  generalize l.length = m at *
  go_enter Try.func46, Try.ntmps46
  go_wp2_with fail
  go_region
  rw [← W2.out]
  clear LK LD c0 c1 f1
  go_wp2_with fail
  go_end0
  exact FIN.out
set_option maxHeartbeats 2000000 in
set_option maxRecDepth 100000 in
theorem drop_any {w : World} {B D M n T o : Nat} {cs : Array Value} {fs : Fm} {V : Nm → Value} {s : Nm} {u : Int} (h : Fls w B M n fs V) (hB : Blk w D T cs) (h0 : cs[o]? = some (.map (some M))) (h1 : cs[o + 1]? = some (.int .i64 u)) (hF : ¬ Foot M V D)
    (hs : s.size ≤ 9223372036854775807) (hu0 : 0 ≤ u) (hu1 : u ≤ 4611686018427387904) (hg : (gl fs s).length ≤ 4194304) (hgu : ((gl fs s).length : Int) ≤ u) :
    Calls Try.prog 47 #[.pointer (some ⟨D, o, none⟩), .string s] w (Setd w B D M n T o cs (del fs s) (upd V s nilS) (u - (gl fs s).length)) := by
  have hs' : s.size ≤ maxLen := by unfold maxLen; omega
  have hDM : D ≠ M := fun e => hF (.inl e)
  have c0 : w.cell? ⟨D, o, none⟩ = some (.map (some M)) := by rw [hB.cell]; exact h0
  have c1 : w.cell? ⟨D, o + 1, none⟩ = some (.int .i64 u) := by rw [hB.cell]; exact h1
  have f1 := hB.free (o + 1)
  obtain ⟨av, cv, hV⟩ := own_form (h.own s)
  have LK : (Instr.lookup 48 (.map (some M)) (.string s) false).run Try.prog w = .ok (.slice av (gl fs s).length cv) w := by rw [h.look hs', hV]
  have LD : (Instr.lookup 48 (.map (some M)) (.string s) false).run Try.prog w.drew = .ok (.slice av (gl fs s).length cv) w.drew := by
    have h2 : Fls w.drew B M n fs V := h.below (below_drewN (Below.refl _ _) 1)
    rw [h2.look hs', hV]
  obtain ⟨w2, hw2, h2, B2, F2⟩ : ∃ w2, w2 = (w.setCell ⟨D, o + 1, none⟩ (.int .i64 (u - (gl fs s).length))).drew ∧ Fls w2 B M n fs V ∧ Blk w2 D T (cs.setIfInBounds (o + 1) (.int .i64 (u - (gl fs s).length))) ∧ Fr w w2 (fun q => q = D) := by
    have F := (fr_set w D (o + 1) (.int .i64 (u - (gl fs s).length))).trans (fr_drew _ (fun _ => False)) (fun _ _ h => h) (fun _ _ h => h.elim)
    exact ⟨_, rfl, h.fr F (fun q hq e => hF (e ▸ hq)), hB.set _ _, F⟩
  obtain ⟨w3, hrun, h3, g3, z3⟩ := h2.strike hs' 0
  have B3 : Blk w3 D T (cs.setIfInBounds (o + 1) (.int .i64 (u - (gl fs s).length))) := B2.fr (Fr.of_grown g3) (by simpa using hDM)
  have c3 : w2.cell? ⟨D, o, none⟩ = some (.map (some M)) := by rw [B2.cell]; rw [Array.getElem?_setIfInBounds_ne (by omega)]; exact h0
  have FIN := Lib.hid (show Setd w B D M n T o cs (del fs s) (upd V s nilS) (u - (gl fs s).length) (.returned (.tuple #[])) w3 from
    ⟨rfl, h3, B3, F2.trans (Fr.of_grown g3) (fun q _ e => .inl e) (fun q _ e => .inr (by simpa using e))⟩)
  have W2 := Lib.hid hw2
  have hg2 : ((gl fs s).length : Int) ≤ 4194304 := by omega
  clear h2 B2 F2 h3 g3 z3 B3 hV h hB h0 h1 hw2
  generalize (gl fs s).length = g at *
  go_enter Try.func47, Try.ntmps47
  go_wp2_with fail
  go_region
  rw [← W2.out]
  clear LK LD c0 c1 f1
  go_wp2_with fail
  go_end0
  exact FIN.out
end Go.Proofs.Ytejmoaloomnmkaa
