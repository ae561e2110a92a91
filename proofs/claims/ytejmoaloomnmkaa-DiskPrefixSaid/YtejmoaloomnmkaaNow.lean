/-
  THE FILES BEHIND THE ROW ARE CHANGED; a change comes into the row.
-/
import Derived.Test.YtejmoaloomnmkaaSync
import Derived.Deep.AppendLies
namespace Go.Proofs.Ytejmoaloomnmkaa
open Go.RowKit
/-- the second of two files of a disk -/
theorem DkL.doNow {w : World} {B D m : Nat} {S : St} {L : Lie} (h : DkL w B D m S L) (hm : m < 100000) {c : Chg} (hc : c.may S.now) :
    Calls Try.prog 31 #[.pointer (some ⟨D, 2, none⟩), c.val] w fun e w' => e = .returned (.tuple #[]) ∧ ∃ V2, DkL w' B D (m + 1) { S with now := c.doF S.now } { L with V2 := V2 } ∧ Fr w w' (fun q => q = D ∨ Foot L.M2 L.V2 q) ∧ ∀ q, Foot L.M2 V2 q → Foot L.M2 L.V2 q ∨ w.heap.size ≤ q := by
  refine (do_any (o := 2) c h.f2 h.blk rfl rfl h.d2 (Nat.le_trans h.base (Nat.le_of_lt h.blk.lt)) h.g2 (by omega) (by omega) hc).mono fun e w' hd => ?_
  obtain ⟨he, V2, f2, b2, F, hN⟩ := hd
  have hfoot : ∀ q, L.foot D q → q < w.heap.size := fun q hq => (h.lt hq).2
  have h1P : ∀ q, Foot L.M1 L.V1 q → ¬ (q = D ∨ Foot L.M2 L.V2 q) := fun q hq hh => by
    rcases hh with rfl | hh
    · exact h.d1 hq
    · exact h.d12 q hq hh
  have hvP : ∀ q, L.v.ownBlock = some q → ¬ (q = D ∨ Foot L.M2 L.V2 q) := fun q hq hh => by
    obtain ⟨a1, _, a3⟩ := h.dv q hq
    rcases hh with rfl | hh
    · exact a1 rfl
    · exact a3 hh
  have hrow : w'.ownsRow B 62 1 L.v S.row.length (S.row.map Chg.val) := by
    have hr := h.row
    refine ⟨hr.1, ?_⟩
    rcases hr.2 with hn | ⟨g, cap, cur, e, hB, hh, rest⟩
    · exact .inl hn
    · refine .inr ⟨g, cap, cur, e, hB, ?_, rest⟩
      rw [F.block g (Array.getElem?_eq_some_iff.1 hh).1 (hvP g (by rw [e]; rfl))]
      exact hh
  refine ⟨he, V2, ⟨b2, (h.f1.fr F h1P).mono (Nat.le_succ m), f2, hrow, ⟨h.g1.uniq, Nat.le_succ_of_le h.g1.few, h.g1.small⟩, h.g2.doF hc, Nat.le_succ_of_le h.few, h.d1, fun hq => ?_, fun q hq hq2 => ?_, fun q hq => ?_, h.base, ⟨h.calls.1, by have := h.calls.2; simp only; omega⟩, h.trip, by omega⟩, F, hN⟩
  · rcases hN D hq with hh | hh
    · exact h.d2 hh
    · have := h.blk.lt; omega
  · rcases hN q hq2 with hh | hh
    · exact h.d12 q hq hh
    · have := hfoot q (.inr (.inl hq)); omega
  · obtain ⟨a1, a2, a3⟩ := h.dv q hq
    refine ⟨a1, a2, fun hh => ?_⟩
    rcases hN q hh with hh | hh
    · exact a3 hh
    · have := hfoot q (.inr (.inr (.inr hq))); omega
/-- a change comes into the row -/
theorem DkL.app {w w' : World} {B D m : Nat} {S : St} {L : Lie} {c : Chg} {v' : Value} (h : DkL w B D m S L) (hm : m < 100000) (ho : w'.ownsRow B 62 1 v' (S.row.length + 1) (S.row.map Chg.val ++ [c.val])) (hg : w.grownBy w' L.v.ownBlock)
    (hl : ∀ q, v'.ownBlock = some q → L.v.ownBlock = some q ∨ q = w.heap.size) : DkL (w'.setCell ⟨D, 4, none⟩ v') B D (m + 1) { S with row := S.row ++ [c] } { L with v := v' } := by
  have F0 := Fr.of_grown hg
  have hD0 : ¬ (some D = L.v.ownBlock) := fun e => (h.dv D e.symm).1 rfl
  have F := fr_set w' D 4 v'
  have hfoot : ∀ q, L.foot D q → q < w.heap.size := fun q hq => (h.lt hq).2
  have hb := (h.blk.fr F0 hD0).set 4 v'
  have h1 := (h.f1.fr F0 (fun q hq e => (h.dv q e.symm).2.1 hq)).fr F (fun q hq e => h.d1 (e ▸ hq))
  have h2 := (h.f2.fr F0 (fun q hq e => (h.dv q e.symm).2.2 hq)).fr F (fun q hq e => h.d2 (e ▸ hq))
  have hdv : ∀ q, v'.ownBlock = some q → q ≠ D ∧ ¬ Foot L.M1 L.V1 q ∧ ¬ Foot L.M2 L.V2 q := fun q hq => by
    rcases hl q hq with e | e
    · exact h.dv q e
    · refine ⟨fun e' => ?_, fun hh => ?_, fun hh => ?_⟩
      · have := hfoot D (.inl rfl); omega
      · have := hfoot q (.inr (.inl hh)); omega
      · have := hfoot q (.inr (.inr (.inl hh))); omega
  have hrow : (w'.setCell ⟨D, 4, none⟩ v').ownsRow B 62 1 v' (S.row ++ [c]).length ((S.row ++ [c]).map Chg.val) := by
    rw [List.length_append, List.map_append]
    exact World.ownsRow.kept ho (row := some D) ⟨F.os, F.tape, F.output, F.size, fun q hq hne => F.block q hq (fun e => hne (by rw [e]))⟩ (by
      cases hv : v'.ownBlock with
      | none => exact .inl rfl
      | some q => exact .inr (fun e => (hdv q hv).1 (Option.some.inj e)))
  exact ⟨hb, h1.mono (Nat.le_succ m), h2.mono (Nat.le_succ m), hrow, ⟨h.g1.uniq, Nat.le_succ_of_le h.g1.few, h.g1.small⟩, ⟨h.g2.uniq, Nat.le_succ_of_le h.g2.few, h.g2.small⟩, by rw [List.length_append]; have := h.few; simp; omega, h.d1, h.d2, h.d12, hdv, h.base, ⟨h.calls.1, by have := h.calls.2; simp only; omega⟩, h.trip, by omega⟩
theorem info62 : (Try.prog.info? 62).map (fun i => (i.zero, i.size, i.bytes)) = some (some .nilIface, 1, 16) := by kernel_rfl
/-- what a change in the row leaves -/
def NoteW (w : World) (B D m : Nat) (S : St) (L : Lie) (c : Chg) (e : Ending) (w' : World) : Prop :=
  ∃ S' L' x, e = .returned (.int .i64 x) ∧ DkL w' B D (m + S.row.length + 5) S' L' ∧ Counted { S with row := S.row ++ [c], now := c.doF S.now } S' x ∧ Fr w w' (L.foot D) ∧ ∀ q, L'.foot D q → L.foot D q ∨ w.heap.size ≤ q
set_option maxHeartbeats 4000000 in
set_option maxRecDepth 100000 in
theorem note_any {w : World} {B D m : Nat} {S : St} {L : Lie} (c : Chg) (h : DkL w B D m S L) (hd : S.down = false) (hr : mayAll S.sure (S.row ++ [c])) (hc : c.may S.now) (hm : m + S.row.length < 99990) (ht : S.trip ≤ 9223372036854775807) (hk : S.keep ≤ 9223372036854775807) :
    Calls Try.prog 28 #[.pointer (some ⟨D, 0, none⟩), .iface c.ty c.in_] w (NoteW w B D m S L c) := by
  obtain ⟨av, cap, hv⟩ := row_form h.row
  have c4 : w.cell? ⟨D, 4, none⟩ = some (.slice av S.row.length cap) := by rw [← hv]; exact h.blk.cell 4
  have f4 := h.blk.free 4
  have hl := h.blk.lt
  have hBD := h.base
  obtain ⟨w1, hw1, b1, W1c⟩ : ∃ w1, w1 = w.alloc (.cells #[.iface c.ty c.in_] 62) ∧ Below w.heap.size w w1 ∧ w1.cell? ⟨w.heap.size, 0, none⟩ = some (.iface c.ty c.in_) := ⟨_, rfl, (Below.refl _ _).alloc (Nat.le_refl _) _, (Blk.new w 62 #[.iface c.ty c.in_]).cell 0⟩
  have h1 := h.below b1
  have OWN : Hid (w1.ownsRow B 62 1 (.slice av S.row.length cap) S.row.length (S.row.map Chg.val)) := Lib.hid (by rw [← hv]; exact h1.row)
  have APP : Hid (∀ g cp w', w'.ownsRow B 62 1 (.slice (some ⟨g, 0, none⟩) (S.row.length + 1) cp) (S.row.length + 1) (S.row.map Chg.val ++ [.iface c.ty c.in_]) → w1.grownBy w' (Value.slice av S.row.length cap).ownBlock → ((Value.slice av S.row.length cap).ownBlock = some g ∨ g = w1.heap.size) →
      DkL (w'.setCell ⟨D, 4, none⟩ (.slice (some ⟨g, 0, none⟩) (S.row.length + 1) cp)) B D (m + 1) { S with row := S.row ++ [c] } { L with v := .slice (some ⟨g, 0, none⟩) (S.row.length + 1) cp } ∧ Fr w (w'.setCell ⟨D, 4, none⟩ (.slice (some ⟨g, 0, none⟩) (S.row.length + 1) cp)) (L.foot D) ∧ w'.frozen? ⟨D, 4, none⟩ = false ∧ (L.v.ownBlock = some g ∨ w.heap.size ≤ g) ∧ w'.cell? ⟨D, 4, none⟩ = some (.slice av S.row.length cap)) := Lib.hid (fun g cp w' ho hg hl' => by
    rw [← hv] at hg hl'
    rw [← Chg.val_eq] at ho
    have F0 := Fr.of_grown hg
    have hb := h1.blk.fr F0 (fun e => (h1.dv D e.symm).1 rfl)
    refine ⟨h1.app (by omega) ho hg (fun q hq => ?_), ?_, hb.free 4, ?_, by rw [← hv]; exact hb.cell 4⟩
    · have e : some g = some q := hq
      injection e with e
      subst e
      exact hl'
    · refine ((Fr.of_below b1 (fun _ => False)).trans F0 (R := L.foot D) (fun _ _ h => h.elim) (fun q _ e => .inr (.inr (.inr e.symm)))).trans (fr_set _ D 4 _) (fun _ _ h => h) (fun _ _ e => .inl e)
    · rcases hl' with e | e
      · exact .inl e
      · right; have := b1.size; omega)
  have W1 := Lib.hid hw1
  have H := Lib.hid h
  have HR := Lib.hid hr
  have HC := Lib.hid hc
  have HW := Lib.hid W1c
  have B1 := Lib.hid b1
  have hs1 := b1.size
  obtain ⟨i62, hi, hz0, hz1, hz2⟩ := info_parts info62
  have NEWS : ∀ j u, [Value.iface c.ty c.in_][j]? = some u → (w.alloc (.cells #[.iface c.ty c.in_] 62)).cell? ((⟨w.heap.size, 0, none⟩ : Addr).add j) = some u := World.news_of_block (cs := #[.iface c.ty c.in_]) (heap_alloc_new w _)
  clear h h1 hv W1c hr hc b1 hw1
  generalize hn : S.row.length = n at *
  go_enter Try.func28, Try.ntmps28
  go_wp2_with (at_builtin; rw [← W1.out]; refine wpList_append_lies _ rfl (.tmp 9) (.tmp 11) 52 rfl B 62 i62 .nilIface 1 16 Try.underlying52 hi hz0 hz1 hz2 rfl (by decide) (.slice av n cap) n (S.row.map Chg.val) rfl OWN.out ⟨w.heap.size, 0, none⟩ 1 1 [.iface c.ty c.in_] rfl rfl (by rw [W1.out]; exact NEWS) (by intro u hu; simp only [List.mem_singleton] at hu; subst hu; rfl) (by decide) (by unfold maxLen; omega) (by omega) (by omega) _ rfl ?_; intro g4 cp4 w4 ho4 hg4 hl4 _; obtain ⟨dk4, fr4, fz4, lb4, cl4⟩ := APP.out g4 cp4 w4 ho4 hg4 hl4; have DK4 := Lib.hid dk4; have FR4 := Lib.hid fr4; have LB4 := Lib.hid lb4; clear dk4 fr4 lb4 ho4 hg4 hl4 APP NEWS OWN W1 HW c4 f4)
  rw [← Chg.val_eq]
  refine (DK4.out.doNow (by omega) HC.out).mono ?_
  rintro e w6 ⟨rfl, V2, d6, F6, N6⟩
  have FR6 := Lib.hid (FR4.out.trans F6 (R := L.foot D) (fun _ _ h => h) (fun q _ hh => hh.elim .inl (fun h => .inr (.inr (.inl h)))))
  have hs4 := FR4.out.size
  have FT6 : Hid (∀ q, ({ M1 := L.M1, M2 := L.M2, V1 := L.V1, V2 := V2, v := Value.slice (some ⟨g4, 0, none⟩) (n + 1) cp4 } : Lie).foot D q → L.foot D q ∨ w.heap.size ≤ q) := Lib.hid (fun q hq => by
    rcases hq with hq | hq | hq | hq
    · exact .inl (.inl hq)
    · exact .inl (.inr (.inl hq))
    · rcases N6 q hq with hh | hh
      · exact .inl (.inr (.inr (.inl hh)))
      · right; omega
    · have e : some g4 = some q := hq
      injection e with e
      subst e
      rcases LB4.out with e | e
      · exact .inl (.inr (.inr (.inr e)))
      · exact .inr e)
  have CT := Lib.hid (count_any d6 hd HR.out (by simp only [List.length_append, List.length_singleton]; omega) ht hk)
  clear d6 F6 N6 DK4 FR4
  go_wp2_with fail
  refine CT.out.mono ?_
  rintro e w7 ⟨S', L', x, rfl, d7, hcnt, F7, N7⟩
  have FIN : Hid (NoteW w B D m S L c (.returned (.int .i64 x)) w7) := Lib.hid ⟨S', L', x, rfl, d7.mono (by simp only [List.length_append, List.length_singleton]; omega) (by omega), hcnt, FR6.out.trans F7 (fun _ _ h => h) (fun q hq hh => by
      rcases FT6.out q hh with h' | h'
      · exact h'
      · omega), fun q hq => by
      rcases N7 q hq with hh | hh
      · exact FT6.out q hh
      · right; have := FR6.out.size; omega⟩
  clear d7 hcnt F7 N7 CT
  go_wp2_with fail
  first | go_ret | go_ret2
  exact FIN.out
end Go.Proofs.Ytejmoaloomnmkaa
