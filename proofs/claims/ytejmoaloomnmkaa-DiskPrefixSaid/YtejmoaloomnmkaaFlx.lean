/-
  FILES OF WHICH ONE IS BEING WRITTEN.
-/
import Derived.Test.YtejmoaloomnmkaaDo2
namespace Go.Proofs.Ytejmoaloomnmkaa
open Go.RowKit
/-- as Fls, but of the bytes of the file x nothing is said -/
structure Flx (w : World) (B M n : Nat) (fs : Fm) (V : Nm → Value) (x : Nm) : Prop where
  map : ∃ D, w.ownsMap Try.prog 9 Rv M n D ∧ (∀ s, Maps.has D (key s) = (get fs s).isSome) ∧ ∀ s, D.atKey (key s) (.held nilS) = .held (V s)
  own : ∀ s, s ≠ x → w.ownsRow B 5 1 (V s) (gl fs s).length (bcells (gl fs s))
  apart : ∀ s t, s ≠ t → (V s).ownBlock = none ∨ (V s).ownBlock ≠ (V t).ownBlock
  off : B ≤ M ∧ ∀ s, (V s).ownBlock ≠ some M
  form : ∃ a c, V x = .slice a (gl fs x).length c
theorem Fls.flx {w w' : World} {B M n : Nat} {fs : Fm} {V : Nm → Value} (h : Fls w B M n fs V) (x : Nm) {P : Nat → Prop} (hf : Fr w w' P) (hP : ∀ q, P q → some q = (V x).ownBlock) : Flx w' B M n fs V x := by
  obtain ⟨⟨D, hD, h1, h2⟩, h3, h4, h5⟩ := h
  refine ⟨⟨D, ?_, h1, h2⟩, fun s hs => ?_, h4, h5, own_form (h3 x)⟩
  · have hl := hD.lt
    obtain ⟨es, clock, hh, rest⟩ := hD
    exact ⟨es, clock, (hf.block M hl (fun hp => h5.2 x (hP M hp).symm)).trans hh, rest⟩
  · have hr := h3 s
    refine ⟨hr.1, ?_⟩
    rcases hr.2 with hn | ⟨g, cap, cur, e, hB, hh, rest⟩
    · exact .inl hn
    · refine .inr ⟨g, cap, cur, e, hB, ?_, rest⟩
      rw [hf.block g (Array.getElem?_eq_some_iff.1 hh).1 (fun hp => by
        have e1 : (V s).ownBlock = some g := by rw [e]; rfl
        rcases h4 s x hs with h | h
        · rw [h] at e1; cases e1
        · exact h (e1.trans (hP g hp)))]
      exact hh
theorem Flx.fr {w w' : World} {B M n : Nat} {fs : Fm} {V : Nm → Value} {x : Nm} {P : Nat → Prop} (h : Flx w B M n fs V x) (hf : Fr w w' P) (hP : ∀ q, Foot M V q → ¬ P q) : Flx w' B M n fs V x := by
  obtain ⟨⟨D, hD, h1, h2⟩, h3, h4, h5, h6⟩ := h
  refine ⟨⟨D, ?_, h1, h2⟩, fun s hs => ?_, h4, h5, h6⟩
  · have hl := hD.lt
    obtain ⟨es, clock, hh, rest⟩ := hD
    exact ⟨es, clock, (hf.block M hl (hP M (.inl rfl))).trans hh, rest⟩
  · have hr := h3 s hs
    refine ⟨hr.1, ?_⟩
    rcases hr.2 with hn | ⟨g, cap, cur, e, hB, hh, rest⟩
    · exact .inl hn
    · refine .inr ⟨g, cap, cur, e, hB, ?_, rest⟩
      rw [hf.block g (Array.getElem?_eq_some_iff.1 hh).1 (hP g (.inr ⟨s, by rw [e]; rfl⟩))]
      exact hh
theorem Flx.below {w w' : World} {B M n : Nat} {fs : Fm} {V : Nm → Value} {x : Nm} (h : Flx w B M n fs V x) (hb : Below w.heap.size w w') : Flx w' B M n fs V x := h.fr (Fr.of_below hb (fun _ => False)) (fun _ _ h => h)
theorem Flx.look {w : World} {B M n : Nat} {fs : Fm} {V : Nm → Value} {x : Nm} (h : Flx w B M n fs V x) {s : Nm} (hs : s.size ≤ maxLen) : (Instr.lookup 48 (.map (some M)) (.string s) false).run Try.prog w = .ok (V s) w := by
  obtain ⟨⟨D, hD, _, h2⟩, _⟩ := h
  obtain ⟨v, ps, hrun, hv⟩ := hD.lookup law9 Try.underlying48 (zero55 w) (zd := .held nilS) (zp := []) rfl (keyOf_key hs)
  rw [h2] at hv
  unfold Rv at hv
  simp only [Option.some.injEq, Prod.mk.injEq, DataW.held.injEq] at hv
  rw [hrun, hv.1]
/-- 'm[s] = v' -/
theorem Flx.store {w : World} {B M n : Nat} {fs : Fm} {V : Nm → Value} {s : Nm} (h : Flx w B M n fs V s) (hs : s.size ≤ maxLen) (hn : n < maxLen) {v : Value} {l : List UInt8} (ho : w.ownsRow B 5 1 v l.length (bcells l))
    (hv : ∀ t, t ≠ s → v.ownBlock = none ∨ v.ownBlock ≠ (V t).ownBlock) (hM : v.ownBlock ≠ some M) :
    ∃ w', (Instr.mapUpdate 48 (.map (some M)) (.string s) v).run Try.prog w = .ok () w' ∧ Fls w' B M (n + 1) (put fs s l) (upd V s v) ∧ w.grownBy w' (some M) ∧ w'.heap.size = w.heap.size := by
  obtain ⟨⟨D, hD, h1, h2⟩, h3, h4, h5, _⟩ := h
  obtain ⟨w', hrun, hD', ht⟩ := hD.store law9 Try.underlying48 hn (keyOf_key hs) (d := .held v) (ps := []) rfl
  obtain ⟨es, clock, es', clock', hb, hw'⟩ := ht
  have hg : w.grownBy w' (some M) := by
    rw [hw']
    exact ⟨rfl, rfl, rfl, by simp [ChangeMaps.setBlock], fun i _ hi => ChangeMaps.heap_setBlock_other hb _ (fun e => hi (by rw [e]))⟩
  have hz : w'.heap.size = w.heap.size := by rw [hw']; simp [ChangeMaps.setBlock]
  have hm : Maps.IsMap D := by
    obtain ⟨es, _, _, _, _, rfl⟩ := hD
    exact ⟨_, rfl⟩
  refine ⟨w', hrun, ⟨⟨_, hD', fun t => ?_, fun t => ?_⟩, fun t => ?_, fun t u htu => ?_, h5.1, fun t => ?_⟩, hg, hz⟩
  · by_cases e : t = s
    · subst e
      rw [Maps.has_put_same hm (isKey t), get_put_same]; rfl
    · rw [Maps.has_put_other (key_ne e), get_put_other l e, h1]
  · by_cases e : t = s
    · subst e
      rw [Maps.atKey_put_same hm (isKey t), upd_same]
    · rw [Maps.atKey_put_other (key_ne e), upd_other V v e, h2]
  · by_cases e : t = s
    · subst e
      rw [upd_same, gl_put_same]
      exact World.ownsRow.kept ho hg (.inr hM)
    · rw [upd_other V v e, gl_put_other l e]
      exact World.ownsRow.kept (h3 t e) hg (.inr (h5.2 t))
  · by_cases e : t = s
    · subst e
      rw [upd_same, upd_other V v htu.symm]
      exact hv u htu.symm
    · by_cases e2 : u = s
      · subst e2
        rw [upd_same, upd_other V v e]
        rcases hv t e with h | h
        · rw [h]
          rcases hq : (V t).ownBlock with _ | q
          · exact .inl rfl
          · exact .inr (by simp)
        · exact .inr (fun h' => h h'.symm)
      · rw [upd_other V v e, upd_other V v e2]
        exact h4 t u htu
  · by_cases e : t = s
    · subst e; rw [upd_same]; exact hM
    · rw [upd_other V v e]; exact h5.2 t
set_option maxHeartbeats 2000000 in
set_option maxRecDepth 100000 in
theorem setx_any {w : World} {B D M n T o : Nat} {cs : Array Value} {fs : Fm} {V : Nm → Value} {s : Nm} {a : Option Addr} {l : List UInt8} {c : Nat} {u : Int} (h : Flx w B M n fs V s) (hB : Blk w D T cs) (h0 : cs[o]? = some (.map (some M))) (h1 : cs[o + 1]? = some (.int .i64 u)) (hF : ¬ Foot M V D)
    (hs : s.size ≤ 9223372036854775807) (hn : n < 1000000) (hu0 : 0 ≤ u) (hu1 : u ≤ 4611686018427387904) (hl : l.length ≤ 4194304) (hg : (gl fs s).length ≤ 4194304) (hgu : ((gl fs s).length : Int) ≤ u) (ho : w.ownsRow B 5 1 (.slice a l.length c) l.length (bcells l))
    (hv : ∀ t, t ≠ s → (Value.slice a l.length c).ownBlock = none ∨ (Value.slice a l.length c).ownBlock ≠ (V t).ownBlock) (hM : (Value.slice a l.length c).ownBlock ≠ some M) (hvD : (Value.slice a l.length c).ownBlock ≠ some D) :
    Calls Try.prog 46 #[.pointer (some ⟨D, o, none⟩), .string s, .slice a l.length c] w (Setd w B D M (n + 1) T o cs (put fs s l) (upd V s (.slice a l.length c)) (u + (l.length - (gl fs s).length))) := by
  have hs' : s.size ≤ maxLen := by unfold maxLen; omega
  have hDM : D ≠ M := fun e => hF (.inl e)
  have c0 : w.cell? ⟨D, o, none⟩ = some (.map (some M)) := by rw [hB.cell]; exact h0
  have c1 : w.cell? ⟨D, o + 1, none⟩ = some (.int .i64 u) := by rw [hB.cell]; exact h1
  have f1 := hB.free (o + 1)
  obtain ⟨av, cv, hV⟩ := h.form
  have LK : (Instr.lookup 48 (.map (some M)) (.string s) false).run Try.prog w = .ok (.slice av (gl fs s).length cv) w := by rw [h.look hs', hV]
  have LD : (Instr.lookup 48 (.map (some M)) (.string s) false).run Try.prog w.drew = .ok (.slice av (gl fs s).length cv) w.drew := by
    have h2 : Flx w.drew B M n fs V s := h.below (below_drewN (Below.refl _ _) 1)
    rw [h2.look hs', hV]
  obtain ⟨w2, hw2, h2, B2, F2, o2⟩ : ∃ w2, w2 = (w.setCell ⟨D, o + 1, none⟩ (.int .i64 (u + ((l.length : Int) - (gl fs s).length)))).drew ∧ Flx w2 B M n fs V s ∧ Blk w2 D T (cs.setIfInBounds (o + 1) (.int .i64 (u + ((l.length : Int) - (gl fs s).length)))) ∧ Fr w w2 (fun q => q = D) ∧ w2.ownsRow B 5 1 (.slice a l.length c) l.length (bcells l) := by
    have F := (fr_set w D (o + 1) (.int .i64 (u + ((l.length : Int) - (gl fs s).length)))).trans (fr_drew _ (fun _ => False)) (fun _ _ h => h) (fun _ _ h => h.elim)
    refine ⟨_, rfl, h.fr F (fun q hq e => hF (e ▸ hq)), hB.set _ _, F, ?_⟩
    exact World.ownsRow.kept ho ⟨F.os, F.tape, F.output, F.size, fun q hq hne => F.block q hq (fun e => hne (by rw [e]))⟩ (.inr hvD)
  obtain ⟨w3, hrun, h3, g3, z3⟩ := h2.store hs' (by unfold maxLen; omega) o2 hv hM
  have B3 : Blk w3 D T (cs.setIfInBounds (o + 1) (.int .i64 (u + ((l.length : Int) - (gl fs s).length)))) := B2.fr (Fr.of_grown g3) (by simpa using hDM)
  have c3 : w2.cell? ⟨D, o, none⟩ = some (.map (some M)) := by rw [B2.cell]; rw [Array.getElem?_setIfInBounds_ne (by omega)]; exact h0
  have FIN := Lib.hid (show Setd w B D M (n + 1) T o cs (put fs s l) (upd V s (.slice a l.length c)) (u + (l.length - (gl fs s).length)) (.returned (.tuple #[])) w3 from
    ⟨rfl, h3, B3, F2.trans (Fr.of_grown g3) (fun q _ e => .inl e) (fun q _ e => .inr (by simpa using e))⟩)
  have W2 := Lib.hid hw2
  have hg2 : ((gl fs s).length : Int) ≤ 4194304 := by omega
  have hl2 : (l.length : Int) ≤ 4194304 := by omega
  clear h2 B2 F2 o2 h3 g3 z3 B3 hV ho hv hM hvD h hB h0 h1 hw2
  generalize (gl fs s).length = g at *
  generalize l.length = m at *
  go_enter Try.func46, Try.ntmps46
  go_wp2_with fail
  go_region
  rw [← W2.out]
  clear LK LD c0 c1 f1
  go_wp2_with fail
  go_end0
  exact FIN.out
end Go.Proofs.Ytejmoaloomnmkaa
