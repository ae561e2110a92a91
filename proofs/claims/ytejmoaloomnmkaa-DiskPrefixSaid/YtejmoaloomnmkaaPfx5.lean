/-
  DiskPrefix: THE LOSS OF POWER.
-/
import Derived.Test.YtejmoaloomnmkaaPfx4
namespace Go.Proofs.Ytejmoaloomnmkaa
open Go.RowKit
/-- behind the loss of power; down or woken -/
structure P3 (W wq : World) (D E BE Y : Nat) (dn : Bool) (K : Fm) (FL : List FT) (A : List Act) (u : Value) (wa : Option Addr) : Prop where
  d : ∃ m S L LE, DkL wq W.heap.size D m S L ∧ S.down = dn ∧ Alike S.now K ∧ DkL wq BE E 0 st0 LE ∧ (∀ q, LE.foot E q → q < Y ∧ ¬ L.foot D q) ∧ (∀ q, u.ownBlock = some q → ¬ L.foot D q) ∧ (∀ ad : Addr, wa = some ad → ¬ L.foot D ad.block)
  o : wq.ownsRow Y 31 5 u A.length (cellsA A)
  want : Filed wq wa FL
  b : Below W.heap.size W wq
  w : W.heap.size ≤ BE
section
variable {W wq : World} {D E BE Y k : Nat} {ma wa : Option Addr} {M A : List Act} {u : Value} {dn : Bool} {K : Fm} {FL : List FT}
theorem P3.below {w' : World} (h : P3 W wq D E BE Y dn K FL A u wa) (b : Below wq.heap.size wq w') : P3 W w' D E BE Y dn K FL A u wa := by
  obtain ⟨m, S, L, LE, d, hd, hA, de, rest⟩ := h.d
  exact ⟨⟨m, S, L, LE, d.below b, hd, hA, de.below b, rest⟩, own_fr h.o (Fr.of_below b (fun _ => False)) (fun _ _ h => h), h.want.below b, h.b.trans (b.mono h.b.size), h.w⟩
theorem P1.rest (h : P1 W wq D E BE Y k ma M A A u) (hk60 : k ≤ 60) (hBE : W.heap.size ≤ BE) (kk : Int) (hkk : kk ≤ 9223372036854775807) :
    ∃ R, Run [] A R ∧ (filesF (doAll [] R)).length ≤ 100000 ∧ Calls Try.prog 16 #[.pointer (some ⟨D, 0, none⟩)] wq (Filesd wq (filesF (doAll [] R))) ∧
      ∀ W1 wa, Below wq.heap.size wq W1 → Filed W1 wa (filesF (doAll [] R)) → (∀ ad : Addr, wa = some ad → wq.heap.size ≤ ad.block ∧ ad.block < W1.heap.size) →
        Calls Try.prog 13 #[.pointer (some ⟨D, 0, none⟩), .int .i64 kk] W1 fun e w' => e = .returned (.tuple #[]) ∧ P3 W w' D E BE Y true (keepF [] R (atLeast kk 0)) (filesF (doAll [] R)) A u wa := by
  obtain ⟨m, S, L, LE, d, ok, ca, hsu, hrun, hrow, hmb, de, hde, hma, hu⟩ := h.d
  have hA := ok.now
  rw [hsu] at hA
  have hn : Ns S.now := fun s hs => (ns_nil.doAll hrun.nmd) s (by rw [← hA s]; exact hs)
  have hfe : filesF S.now = filesF (doAll [] S.row) := filesF_alike d.g2.uniq (uniq_doAll uniq_nil _) hA
  refine ⟨S.row, hrun, ?_, ?_, fun W1 wa b1 hF hwa => ?_⟩
  · rw [← hfe, filesF_len]; have := d.g2.few; have := d.low; omega
  · have := files_any d (fun s hs => (names_small hn s hs).2)
    rw [filesOf_up ca.up hn, hfe] at this
    exact this
  · have d1 := d.below b1
    refine (fail_up d1 ca.up ok.may (by omega) kk hkk).mono fun e w' hh => ?_
    obtain ⟨rfl, N, L', d', hN, F, hL⟩ := hh
    have hlt : ∀ q, L.foot D q → q < wq.heap.size := fun q hq => (d.lt hq).2
    have hs1 := b1.size
    refine ⟨rfl, ⟨_, _, L', LE, d', rfl, fun s => by rw [← hsu]; exact hN s, (de.below b1).fr F (fun q hq => (hde q hq).2), fun q hq => ⟨(hde q hq).1, fun hh => ?_⟩, fun q e hh => ?_, fun ad e hh => ?_⟩, own_fr (own_fr h.o (Fr.of_below b1 (fun _ => False)) (fun _ _ h => h)) F hu, hF.fr F (fun ad e hq => by have := hlt _ hq; have := (hwa ad e).1; omega), (h.b.trans (b1.mono h.b.size)).trans (Fr.foot d1 F), hBE⟩
    · rcases hL q hh with hh | hh
      · exact (hde q hq).2 hh
      · have := (hde q hq).1; have := h.y; omega
    · rcases hL q hh with hh | hh
      · exact hu q e hh
      · have := (World.ownsRow.lt h.o q e).2; omega
    · rcases hL _ hh with hh | hh
      · have := hlt _ hh; have := (hwa ad e).1; omega
      · have := (hwa ad e).2; omega
theorem P3.wake (h : P3 W wq D E BE Y true K FL A u wa) : Calls Try.prog 14 #[.pointer (some ⟨D, 0, none⟩)] wq fun e w' => e = .returned (.tuple #[]) ∧ P3 W w' D E BE Y false K FL A u wa := by
  obtain ⟨m, S, L, LE, d, hd, hA, de, hde, hu, hwa⟩ := h.d
  refine (wake_any d).mono fun e w' hh => ?_
  obtain ⟨rfl, d', F⟩ := hh
  have hD : L.foot D D := .inl rfl
  exact ⟨rfl, ⟨m, _, L, LE, d', rfl, hA, de.fr F (fun q hq e => (hde q hq).2 (e ▸ hD)), hde, hu, hwa⟩, own_fr h.o F (fun q e hq => hu q e (hq ▸ hD)), h.want.fr F (fun ad e hq => hwa ad e (hq ▸ hD)), h.b.trans (F.below (fun q hq => by rw [hq]; exact d.base) h.b.size), h.w⟩
theorem P3.files (h : P3 W wq D E BE Y false K FL A u wa) (hK : Ns K) (hu : Uniq K) : Calls Try.prog 16 #[.pointer (some ⟨D, 0, none⟩)] wq (Filesd wq (filesF K)) ∧ (filesF K).length ≤ 100000 := by
  obtain ⟨m, S, L, LE, d, hd, hA, _⟩ := h.d
  have hn : Ns S.now := fun s hs => hK s (by rw [← hA s]; exact hs)
  have hfe : filesF S.now = filesF K := filesF_alike d.g2.uniq hu hA
  have := files_any d (fun s hs => (names_small hn s hs).2)
  rw [filesOf_up hd hn, hfe] at this
  refine ⟨this, ?_⟩
  rw [← hfe, filesF_len]; have := d.g2.few; have := d.low; omega
theorem P3.p2 {da ga : Option Addr} {dc : Nat} {R : List Chg} {w' : World} (h : P3 W wq D E BE Y false K FL A (.slice da A.length dc) wa) (b : Below wq.heap.size wq w') (hG : Filed w' ga (filesF K)) (hga : ∀ ad : Addr, ga = some ad → wq.heap.size ≤ ad.block) (h0 : 0 < (filesF K).length) : P2 W w' E BE 0 da ga A R (filesF K) := by
  obtain ⟨m, S, L, LE, d, hd, hA, de, hde, hu, hwa⟩ := h.d
  refine ⟨⟨0, st0, LE, de.below b, ok0, ⟨rfl, rfl, by decide⟩, rfl, rfl, by omega, fun ad e hq => ?_, fun ad e hq => ?_⟩, (acts_row rfl h.o).below b, hG, h.b.trans (b.mono h.b.size), h.w, h0⟩
  · have h1 := (hde _ hq).1
    have h2 := (World.ownsRow.lt h.o ad.block (by rw [e]; rfl)).1
    omega
  · have h1 := (de.lt hq).2
    have h2 := hga ad e
    omega
end
theorem ns_keep {A : List Act} {R : List Chg} (hrun : Run [] A R) (k : Int) : Ns (keepF [] R k) := ns_nil.keep hrun.nmd k
end Go.Proofs.Ytejmoaloomnmkaa
