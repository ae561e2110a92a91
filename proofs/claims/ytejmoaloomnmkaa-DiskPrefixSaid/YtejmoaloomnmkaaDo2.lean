/-
  A CHANGE IS DONE: a file has another name.
-/
import Derived.Test.YtejmoaloomnmkaaDo
namespace Go.Proofs.Ytejmoaloomnmkaa
open Go.RowKit
set_option maxHeartbeats 2000000 in
set_option maxRecDepth 100000 in
theorem do_move {w : World} {B D M n T o m : Nat} {cs : Array Value} {fs : Fm} {V : Nm → Value} {f t : Nm} (h : Fls w B M n fs V) (hB : Blk w D T cs) (h0 : cs[o]? = some (.map (some M))) (h1 : cs[o + 1]? = some (.int .i64 (sz fs))) (hF : ¬ Foot M V D)
    (hG : Good fs m) (hm : m ≤ 100000) (hn : n < 1000000) (hf : f.size ≤ 64) (ht : t.size ≤ 64) :
    Calls Try.prog 31 #[.pointer (some ⟨D, o, none⟩), (Chg.move f t).val] w (Done w B D M (n + 1) T o cs V ((Chg.move f t).doF fs)) := by
  have hsz := hG.sz_le
  have hgl := hG.gl_le f
  have hgs := gl_le_sz hG.uniq f
  have hG2 := hG.del f
  have hgl2 := hG2.gl_le t
  have hgs2 := gl_le_sz hG2.uniq t
  have hsz2 := hG2.sz_le
  have ho1 : o + 1 < cs.size := (Array.getElem?_eq_some_iff.1 h1).1
  obtain ⟨av, cv, hV⟩ := own_form (h.own f)
  have e1 : (sz fs : Int) - (gl fs f).length = (sz (del fs f) : Int) := by have := sz_del hG.uniq f; omega
  have e2 : (sz (del fs f) : Int) + (((gl fs f).length : Int) - (gl (del fs f) t).length) = (sz (Ytejmoaloomnmkaa.put (del fs f) t (gl fs f)) : Int) := by have := sz_put hG2.uniq t (gl fs f); omega
  obtain ⟨w1, hw1, hb1, Y1⟩ : ∃ w1, w1 = w.alloc (Obj.cells #[.string f, .string t] 86) ∧ Below w.heap.size w w1 ∧ Blk w1 w.heap.size 86 #[.string f, .string t] := ⟨_, rfl, (Below.refl w.heap.size w).alloc (Nat.le_refl _) _, Blk.new _ _ _⟩
  have hbn : ∀ q, Below w.heap.size w (w1.drewN q) := fun q => below_drewN hb1 q
  have LD : ∀ q, (Instr.lookup 48 (.map (some M)) (.string f) false).run Try.prog (w1.drewN q) = .ok (.slice av (gl fs f).length cv) (w1.drewN q) := fun q => by rw [(h.below (hbn q)).look (by unfold maxLen; omega), hV]
  have hYD : w.heap.size ≠ D := fun e => by have := hB.lt; omega
  have hYM : w.heap.size ≠ M := fun e => by have := (h.lt (.inl rfl)).2; omega
  have hfD : (V f).ownBlock ≠ some D := fun e => hF (.inr ⟨f, e⟩)
  have C1 : Hid (∀ q, Calls Try.prog 47 #[.pointer (some ⟨D, o, none⟩), .string f] (w1.drewN q) (Setd (w1.drewN q) B D M n T o cs (del fs f) (upd V f nilS) (sz (del fs f)))) := Lib.hid (fun q => by
    have := drop_any (h.below (hbn q)) (hB.below (hbn q) hB.lt) h0 h1 hF (s := f) (by omega) (by omega) (by omega) hgl (by omega)
    rw [e1] at this
    exact this)
  have C2 : Hid (∀ q w2 e, Setd (w1.drewN q) B D M n T o cs (del fs f) (upd V f nilS) (sz (del fs f)) e w2 →
      w2.cell? ⟨w.heap.size, 1, none⟩ = some (.string t) ∧ Calls Try.prog 46 #[.pointer (some ⟨D, o, none⟩), .string t, .slice av (gl fs f).length cv] w2 (Done w B D M (n + 1) T o cs V (Ytejmoaloomnmkaa.put (del fs f) t (gl fs f)))) := Lib.hid (fun q w2 e hs => by
    obtain ⟨a1, a2⟩ := setd_cells hs (Y1 : Blk (w1.drewN q) _ _ _) hYD hYM h0
    obtain ⟨_, k1, k2, k3⟩ := hs
    refine ⟨by rw [a1.cell]; rfl, ?_⟩
    have hF2 : ¬ Foot M (upd V f nilS) D := fun hq => by
      rcases foot_upd hq with h | h
      · exact hF h
      · simp [nilS, Value.ownBlock] at h
    have hob : (Value.slice av (gl fs f).length cv).ownBlock = (V f).ownBlock := by rw [hV]
    have ho2 : w2.ownsRow B 5 1 (.slice av (gl fs f).length cv) (gl fs f).length (bcells (gl fs f)) := by
      have hh := (h.below (hbn q)).own f
      rw [hV] at hh
      refine ⟨hh.1, ?_⟩
      rcases hh.2 with hn | ⟨g, cap, cur, e, hBg, hg, rest⟩
      · exact .inl hn
      · refine .inr ⟨g, cap, cur, e, hBg, ?_, rest⟩
        rw [k3.block g (Array.getElem?_eq_some_iff.1 hg).1 (by
          rintro (rfl | rfl)
          · exact hfD (by rw [hV, e]; rfl)
          · exact h.off.2 f (by rw [hV, e]; rfl))]
        exact hg
    have C := set_any (o := o) (u := (sz (del fs f) : Int)) (cs := cs.setIfInBounds (o + 1) (.int .i64 (sz (del fs f)))) k1 k2 (by rw [Array.getElem?_setIfInBounds_ne (by omega)]; exact h0) (by rw [Array.getElem?_setIfInBounds_self_of_lt ho1]) hF2 (s := t) (by omega) hn (by omega) (by omega) hgl hgl2 (by omega) ho2
      (fun t' ht' => by
        rw [hob]
        by_cases e : t' = f
        · subst e
          rw [upd_same]
          cases (V t').ownBlock with
          | none => exact .inl rfl
          | some x => exact .inr (by simp [nilS, Value.ownBlock])
        · rw [upd_other V nilS e]
          exact h.apart f t' (fun e' => e e'.symm)) (by rw [hob]; exact h.off.2 f) (by rw [hob]; exact hfD)
    rw [e2] at C
    refine C.mono fun e' w3 hs3 => ?_
    obtain ⟨he, j1, j2, j3⟩ := hs3
    refine ⟨he, _, j1, by rw [Array.setIfInBounds_setIfInBounds] at j2; exact j2, ((Fr.of_below (hbn q) (fun _ => False)).trans k3 (fun _ _ h => h.elim) (fun _ _ h => h)).trans j3 (fun q' _ hq => ?_) (fun q' _ hq => ?_), fun q' hq => ?_⟩
    · rcases hq with rfl | rfl
      · exact .inl rfl
      · exact .inr (.inl rfl)
    · rcases hq with rfl | rfl
      · exact .inl rfl
      · exact .inr (.inl rfl)
    · rcases foot_upd hq with h | h
      · rcases foot_upd h with h | h
        · exact .inl h
        · simp [nilS, Value.ownBlock] at h
      · rw [hob] at h; exact .inl (.inr ⟨f, h⟩))
  have c0 : w1.cell? ⟨D, o, none⟩ = some (.map (some M)) := by rw [(hB.below hb1 hB.lt).cell]; exact h0
  have y0 : w1.cell? ⟨w.heap.size, 0, none⟩ = some (.string f) := by rw [Y1.cell]; rfl
  have W1 := Lib.hid hw1
  have t1 := ta_86_60 w (.agg #[.string f, .string t])
  have t2 := ta_86_84 w (.agg #[.string f, .string t])
  have t3 := ta_86_86 w (.agg #[.string f, .string t])
  clear h hB h0 h1 hF hG hsz hgs e1 hb1 Y1 hbn hV hw1 hYD hYM hfD hG2 hgl2 hgs2 hsz2 e2 ho1
  unfold Chg.val Chg.doF
  simp only
  generalize Ytejmoaloomnmkaa.put (del fs f) t (gl fs f) = fs' at *
  generalize (gl fs f).length = g at *
  go_enter Try.func31, Try.ntmps31
  go_wp2_with fail
  rw [← W1.out]
  clear W1 t1 t2 t3
  go_quiet (fail)
  clear LD c0
  go_wp2_with fail
  refine (C1.out nq).mono ?_
  rintro e w2 hs
  obtain ⟨y1, C3⟩ := C2.out nq _ _ hs
  have C3 := Lib.hid C3
  obtain ⟨rfl, _⟩ := hs
  clear C1 C2 y0
  go_wp2_with fail
  refine C3.out.mono ?_
  rintro e w3 hd
  have F := Lib.hid hd
  obtain ⟨rfl, _⟩ := hd
  clear C3 y1
  go_wp2_with fail
  go_end0
  exact F.out
end Go.Proofs.Ytejmoaloomnmkaa
