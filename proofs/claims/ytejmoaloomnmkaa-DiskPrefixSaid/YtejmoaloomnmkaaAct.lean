/-
  A DOING, ANY: what it makes of a disk.
-/
import Derived.Test.YtejmoaloomnmkaaDoes
import Derived.Test.YtejmoaloomnmkaaDoesn
import Derived.Test.YtejmoaloomnmkaaNms
import Derived.Test.YtejmoaloomnmkaaPut2
namespace Go.Proofs.Ytejmoaloomnmkaa
open Go.RowKit
/-! ### plain: files that read alike -/
theorem get_put (fs : Fm) (s t : Nm) (l : List UInt8) : get (put fs s l) t = if t = s then some l else get fs t := by
  by_cases h : t = s
  · subst h; rw [if_pos rfl]; exact get_put_same fs t l
  · rw [if_neg h]; exact get_put_other l h
theorem get_del (fs : Fm) (s t : Nm) : get (del fs s) t = if t = s then none else get fs t := by
  by_cases h : t = s
  · subst h; rw [if_pos rfl]; exact get_del_same fs t
  · rw [if_neg h]; exact get_del_other h
/-- files that read alike -/
def Alike (A B : Fm) : Prop := ∀ s, get A s = get B s
theorem Alike.refl (A : Fm) : Alike A A := fun _ => rfl
theorem Alike.gl {A B : Fm} (h : Alike A B) (s : Nm) : gl A s = gl B s := by unfold Ytejmoaloomnmkaa.gl; rw [h s]
theorem Alike.put {A B : Fm} (h : Alike A B) (s : Nm) (l : List UInt8) : Alike (put A s l) (put B s l) := fun t => by rw [get_put, get_put, h t]
theorem Alike.del {A B : Fm} (h : Alike A B) (s : Nm) : Alike (del A s) (del B s) := fun t => by rw [get_del, get_del, h t]
theorem Alike.doF {A B : Fm} (h : Alike A B) (c : Chg) : Alike (c.doF A) (c.doF B) := by
  cases c with
  | put f a s => simp only [Chg.doF]; rw [h.gl f]; exact h.put _ _
  | trim f n => simp only [Chg.doF]; rw [h.gl f]; exact h.put _ _
  | move f t => simp only [Chg.doF]; rw [h.gl f]; exact (h.del _).put _ _
  | drop f => exact h.del _
theorem Alike.may {A B : Fm} (h : Alike A B) {c : Chg} (hc : c.may A) : c.may B := by
  cases c with
  | put f a s => simp only [Chg.may] at *; rw [← h.gl f]; exact hc
  | trim f n => simp only [Chg.may] at *; rw [← h.gl f]; exact hc
  | move f t => exact hc
  | drop f => exact hc
theorem doAll_append (fs : Fm) (r : List Chg) (c : Chg) : doAll fs (r ++ [c]) = c.doF (doAll fs r) := by simp [doAll, List.foldl_append]
theorem mayAll_append {fs : Fm} {r : List Chg} {c : Chg} (h : mayAll fs r) (hc : c.may (doAll fs r)) : mayAll fs (r ++ [c]) := by
  induction r generalizing fs with
  | nil => exact ⟨hc, trivial⟩
  | cons d r ih => exact ⟨h.1, ih h.2 hc⟩
/-! ### an act -/
structure Act where
  kd : Int
  nm : Nm
  n : Int
  k : Int
  s : Nm
def Act.val (a : Act) : Value := .agg #[.int .i64 a.kd, .string a.nm, .int .i64 a.n, .int .i64 a.k, .string a.s]
structure Act.Wf (a : Act) : Prop where
  nm : a.nm.size ≤ 9223372036854775807
  n : -9223372036854775808 ≤ a.n ∧ a.n ≤ 9223372036854775807
  k : -9223372036854775808 ≤ a.k ∧ a.k ≤ 9223372036854775807
  s : a.s.size ≤ 9223372036854775807
/-- the change that it asks for -/
def Act.Asks (a : Act) : Chg → Prop
  | .put f n s => a.kd = 0 ∧ f = a.nm ∧ (n : Int) = a.n ∧ s = a.s
  | .trim f n => a.kd = 1 ∧ f = a.nm ∧ (n : Int) = a.n
  | .move f t => a.kd = 2 ∧ f = a.nm ∧ t = a.s
  | .drop f => a.kd = 3 ∧ f = a.nm
/-- a disk as the document wants it -/
structure Ok (S : St) : Prop where
  may : mayAll S.sure S.row
  now : Alike S.now (doAll S.sure S.row)
  trip : S.trip ≤ 9223372036854775807
  keep : S.keep ≤ 9223372036854775807
  bare : S.down = true → S.row = []
/-- what an act makes of a disk, and what it answers -/
inductive Step (a : Act) (S : St) : St → Int → Prop
  | no (x : Int) (h : x ≠ 0) (hk : 0 ≤ a.kd ∧ a.kd ≤ 4) (h7 : x = 7 → a.kd = 0) (h8 : S.down = true → x = 8) : Step a S S x
  | chg (c : Chg) (S' : St) (x : Int) (hd : S.down = false) (hc : a.Asks c) (hn : nameB a.nm = true) (hn2 : a.kd = 2 → nameB a.s = true) (hm : c.may S.now) (hz : 0 ≤ S.room → sz (c.doF S.now) ≤ sz S.now ∨ (sz (c.doF S.now) : Int) ≤ S.room)
      (h : Counted { S with row := S.row ++ [c], now := c.doF S.now } S' x) : Step a S S' x
  | sync (S1 S' : St) (x : Int) (hd : S.down = false) (hk : a.kd = 4) (h : Counted S S1 x) (h' : S' = (if x = 0 then { S1 with sure := doAll S.sure S.row, row := [] } else S1)) : Step a S S' x
  | fail (N : Fm) (hd : S.down = false) (hk : a.kd = 5) (hN : Alike N (keepF S.sure S.row (atLeast a.n 0))) : Step a S { S with sure := keepF S.sure S.row (atLeast a.n 0), now := N, row := [], trip := 0, keep := 0, down := true } 0
  | gone (hd : S.down = true) (hk : a.kd = 5) : Step a S S 0
  | trip (hk : a.kd = 6) : Step a S { S with trip := atLeast a.n 1, keep := a.k } 0
  | wake (hk : a.kd = 7) : Step a S { S with down := false } 0
  | room (hk : a.kd = 8) : Step a S { S with room := a.n } 0
  | other (hk : a.kd < 0 ∨ 8 < a.kd) : Step a S S 0
theorem Counted.ok {S S' : St} {x : Int} (hm : mayAll S.sure S.row) (hn : Alike S.now (doAll S.sure S.row)) (ht : S.trip ≤ 9223372036854775807) (hk : S.keep ≤ 9223372036854775807) (hd : S.down = false) (h : Counted S S' x) : Ok S' ∧ S'.row.length ≤ S.row.length := by
  rcases h with ⟨_, _, rfl⟩ | ⟨_, _, N, rfl, hN⟩
  · refine ⟨⟨hm, hn, ?_, hk, fun e => by rw [hd] at e; cases e⟩, Nat.le_refl _⟩
    simp only; split <;> omega
  · exact ⟨⟨trivial, hN, by simp, by simp, fun _ => rfl⟩, Nat.zero_le _⟩
/-- what an act leaves -/
def DoesW (w : World) (B D m : Nat) (S : St) (L : Lie) (a : Act) (x : Int) (w' : World) : Prop :=
  ∃ S' L', DkL w' B D (m + 2 * S.row.length + 5) S' L' ∧ Ok S' ∧ Step a S S' x ∧ S'.row.length ≤ S.row.length + 1 ∧ Fr w w' (L.foot D) ∧ ∀ q, L'.foot D q → L.foot D q ∨ w.heap.size ≤ q
section
variable {w w1 w' : World} {B D m : Nat} {S : St} {L : Lie} {a : Act}
theorem DoesW.stay (h : DkL w B D m S L) (hm : m + 2 * S.row.length < 99990) (ok : Ok S) (b1 : Below w.heap.size w w1) {x : Int} (st : Step a S S x) : DoesW w B D m S L a x w1 :=
  ⟨S, L, (h.below b1).mono (by omega) (by omega), ok, st, Nat.le_succ _, Fr.of_below b1 _, fun q hq => .inl hq⟩
theorem DoesW.note {c : Chg} (hm : m + 2 * S.row.length < 99990) (ok : Ok S) (hd : S.down = false) (b1 : Below w.heap.size w w1) (hc : a.Asks c) (hn : nameB a.nm = true) (hn2 : a.kd = 2 → nameB a.s = true) (hmay : c.may S.now)
    (hz : 0 ≤ S.room → sz (c.doF S.now) ≤ sz S.now ∨ (sz (c.doF S.now) : Int) ≤ S.room) {e : Ending} (h : NoteW w1 B D m S L c e w') : ∃ x, e = .returned (.int .i64 x) ∧ DoesW w B D m S L a x w' := by
  obtain ⟨S', L', x, rfl, d, hcnt, F, hN⟩ := h
  have k := Counted.ok (S := { S with row := S.row ++ [c], now := c.doF S.now }) (mayAll_append ok.may (ok.now.may hmay)) (by simp only [doAll_append]; exact ok.now.doF c) ok.trip ok.keep hd hcnt
  have hs := b1.size
  refine ⟨x, rfl, S', L', d.mono (by omega) (by omega), k.1, .chg c S' x hd hc hn hn2 hmay hz hcnt, by have := k.2; simpa using this, (Fr.of_below b1 (fun _ => False)).trans F (fun _ _ h => h.elim) (fun _ _ h => h), fun q hq => ?_⟩
  rcases hN q hq with hh | hh
  · exact .inl hh
  · right; omega
end
theorem findE_zero {S : St} {f : Nm} (h : findE S f = 0) : S.down = false ∧ nameB f = true ∧ ∃ l, get S.now f = some l := by
  unfold findE at h
  by_cases hd : S.down = true
  · rw [if_pos hd] at h; omega
  · rw [if_neg hd] at h
    by_cases hn : nameB f = true
    · rw [if_pos hn] at h
      cases hg : get S.now f with
      | none => rw [hg] at h; simp at h
      | some l => exact ⟨by simpa using hd, hn, l, rfl⟩
    · rw [if_neg hn] at h; omega
theorem findE_not7 (S : St) (f : Nm) : findE S f ≠ 7 ∧ (S.down = true → findE S f = 8) := by
  unfold findE
  constructor
  · split
    · omega
    · split
      · split <;> omega
      · omega
  · intro h; rw [if_pos h]
theorem sz_doF {fs : Fm} (hu : Uniq fs) (c : Chg) (hc : c.may fs) (hp : ∀ f a s, c ≠ .put f a s) : sz (c.doF fs) ≤ sz fs := by
  cases c with
  | put f a s => exact absurd rfl (hp f a s)
  | trim f n =>
    have := sz_put hu f ((gl fs f).take n)
    simp only [Chg.doF]
    rw [List.length_take] at this
    omega
  | move f t =>
    have h1 := sz_del hu f
    have h2 := sz_put (uniq_del hu f) t (gl fs f)
    simp only [Chg.doF]
    omega
  | drop f =>
    have h1 := sz_del hu f
    simp only [Chg.doF]
    omega
section
variable {w : World} {B D m : Nat} {S : St} {L : Lie}
theorem act_put (f s : Nm) (n k : Int) (wf : Act.Wf ⟨0, f, n, k, s⟩) (h : DkL w B D m S L) (ok : Ok S) (hm : m + 2 * S.row.length < 99990) :
    Calls Try.prog 12 #[.pointer (some ⟨D, 0, none⟩), (Act.val ⟨0, f, n, k, s⟩)] w fun e w' => ∃ x, e = .returned (.int .i64 x) ∧ DoesW w B D m S L ⟨0, f, n, k, s⟩ x w' := by
  have hf := wf.nm
  have hn := wf.n
  simp only at hf hn
  refine does_put _ f s n k w fun w1 b1 => ?_
  by_cases hd : S.down = true
  · refine (put_down f s n (h.below b1) hd).mono fun e w' hh => ?_
    obtain ⟨rfl, rfl⟩ := hh
    exact ⟨8, rfl, .stay h hm ok b1 (.no 8 (by decide) ⟨by simp, by simp⟩ (fun e => by omega) (fun _ => rfl))⟩
  · have hd : S.down = false := by simpa using hd
    by_cases hb : putBad S f s n
    · refine (put_bad f s n (h.below b1) hd (by omega) hn hb).mono fun e w' hh => ?_
      obtain ⟨rfl, rfl⟩ := hh
      exact ⟨1, rfl, .stay h hm ok b1 (.no 1 (by decide) ⟨by simp, by simp⟩ (fun e => by omega) (fun e => by rw [hd] at e; cases e))⟩
    · have hb' := hb
      unfold putBad at hb'
      have hnm : nameB f = true := by cases e : nameB f <;> simp_all
      have h64 := (nameB_size hnm).2
      have g0 : ¬ n < 0 := fun e => hb' (.inr (.inl e))
      have g1 : ¬ (gl S.now f).length < n := fun e => hb' (.inr (.inr (.inl e)))
      have g2 : ¬ 4194304 - n < s.size := fun e => hb' (.inr (.inr (.inr e)))
      by_cases hfl : putFull S f s n
      · refine (put_full f s n (h.below b1) hd (by omega) hb hfl).mono fun e w' hh => ?_
        obtain ⟨rfl, b2⟩ := hh
        exact ⟨7, rfl, .stay h hm ok (b1.trans (b2.mono b1.size)) (.no 7 (by decide) ⟨by simp, by simp⟩ (fun _ => rfl) (fun e => by rw [hd] at e; cases e))⟩
      · obtain ⟨n', rfl⟩ : ∃ n' : Nat, n = n' := ⟨n.toNat, by omega⟩
        have hc : (Chg.put f n' s).may S.now := ⟨h64, by omega, by omega⟩
        refine (put_yes f s n' (h.below b1) hd (by omega) hb hfl (mayAll_append ok.may (ok.now.may hc)) hc (by omega) ok.trip ok.keep).mono fun e w' hh => ?_
        refine DoesW.note (a := ⟨0, f, _, k, s⟩) (c := .put f n' s) hm ok hd b1 ⟨rfl, rfl, rfl, rfl⟩ hnm (fun e => by simp at e) hc (fun hr => ?_) hh
        have e1 := sz_put h.g2.uniq f (splice (gl S.now f) n' (bl s))
        have e2 := splice_len (l := gl S.now f) (b := bl s) hc.2.1
        rw [bl_len] at e2
        unfold putFull at hfl
        simp only [Chg.doF]
        by_cases hg : 0 < (n' : Int) + s.size - (gl S.now f).length
        · have : ¬ S.room < sz S.now + ((n' : Int) + s.size - (gl S.now f).length) := fun e => hfl ⟨hr, hg, e⟩
          right; omega
        · left; omega
theorem act_trim (f s : Nm) (n k : Int) (wf : Act.Wf ⟨1, f, n, k, s⟩) (h : DkL w B D m S L) (ok : Ok S) (hm : m + 2 * S.row.length < 99990) :
    Calls Try.prog 12 #[.pointer (some ⟨D, 0, none⟩), (Act.val ⟨1, f, n, k, s⟩)] w fun e w' => ∃ x, e = .returned (.int .i64 x) ∧ DoesW w B D m S L ⟨1, f, n, k, s⟩ x w' := by
  have hf := wf.nm
  have hn := wf.n
  simp only at hf hn
  refine does_trim _ f s n k w fun w1 b1 => ?_
  by_cases hE : findE S f = 0
  · obtain ⟨hd, hnm, l, hl⟩ := findE_zero hE
    have h64 := (nameB_size hnm).2
    by_cases hx : n < 0 ∨ n > (gl S.now f).length
    · refine (trim_bad f n (h.below b1) (by omega) hE hx).mono fun e w' hh => ?_
      obtain ⟨rfl, rfl⟩ := hh
      exact ⟨1, rfl, .stay h hm ok b1 (.no 1 (by decide) ⟨by simp, by simp⟩ (fun e => by omega) (fun e => by rw [hd] at e; cases e))⟩
    · obtain ⟨n', rfl⟩ : ∃ n' : Nat, n = n' := ⟨n.toNat, by omega⟩
      have hc : (Chg.trim f n').may S.now := ⟨h64, by omega⟩
      refine (trim_yes f n' (h.below b1) (by omega) hE (by omega) hd (mayAll_append ok.may (ok.now.may hc)) hc (by omega) ok.trip ok.keep).mono fun e w' hh => ?_
      exact DoesW.note (a := ⟨1, f, _, k, s⟩) (c := .trim f n') hm ok hd b1 ⟨rfl, rfl, rfl⟩ hnm (fun e => by simp at e) hc (fun _ => .inl (sz_doF h.g2.uniq _ hc (fun _ _ _ e => by cases e))) hh
  · refine (trim_no f n (h.below b1) (by omega) hE).mono fun e w' hh => ?_
    obtain ⟨rfl, rfl⟩ := hh
    exact ⟨_, rfl, .stay h hm ok b1 (.no _ hE ⟨by simp, by simp⟩ (fun e => absurd e (findE_not7 S f).1) (findE_not7 S f).2)⟩
theorem act_move (f s : Nm) (n k : Int) (wf : Act.Wf ⟨2, f, n, k, s⟩) (h : DkL w B D m S L) (ok : Ok S) (hm : m + 2 * S.row.length < 99990) :
    Calls Try.prog 12 #[.pointer (some ⟨D, 0, none⟩), (Act.val ⟨2, f, n, k, s⟩)] w fun e w' => ∃ x, e = .returned (.int .i64 x) ∧ DoesW w B D m S L ⟨2, f, n, k, s⟩ x w' := by
  have hf := wf.nm
  have hs := wf.s
  simp only at hf hs
  refine does_move _ f s n k w fun w1 b1 => ?_
  by_cases hE : moveE S f s = 0
  · have hE2 := hE
    unfold moveE at hE2
    by_cases hd : S.down = true
    · rw [if_pos hd] at hE2; omega
    rw [if_neg hd] at hE2
    by_cases hns : nameB s = true
    · rw [if_pos hns] at hE2
      obtain ⟨hd, hnm, l, hl⟩ := findE_zero hE2
      have h64 := (nameB_size hnm).2
      have h64s := (nameB_size hns).2
      have hc : (Chg.move f s).may S.now := ⟨h64, h64s⟩
      refine (move_yes f s (h.below b1) (by omega) (by omega) hE hd (mayAll_append ok.may (ok.now.may hc)) hc (by omega) ok.trip ok.keep).mono fun e w' hh => ?_
      exact DoesW.note (a := ⟨2, f, _, k, s⟩) (c := .move f s) hm ok hd b1 ⟨rfl, rfl, rfl⟩ hnm (fun _ => hns) hc (fun _ => .inl (sz_doF h.g2.uniq _ hc (fun _ _ _ e => by cases e))) hh
    · rw [if_neg hns] at hE2; omega
  · refine (move_no f s (h.below b1) (by omega) (by omega) hE).mono fun e w' hh => ?_
    obtain ⟨rfl, rfl⟩ := hh
    refine ⟨_, rfl, .stay h hm ok b1 (.no _ hE ⟨by simp, by simp⟩ (fun e => ?_) (fun e => ?_))⟩
    · unfold moveE at e
      split at e
      · omega
      · split at e
        · exact absurd e (findE_not7 S f).1
        · omega
    · unfold moveE; rw [if_pos e]
theorem act_drop (f s : Nm) (n k : Int) (wf : Act.Wf ⟨3, f, n, k, s⟩) (h : DkL w B D m S L) (ok : Ok S) (hm : m + 2 * S.row.length < 99990) :
    Calls Try.prog 12 #[.pointer (some ⟨D, 0, none⟩), (Act.val ⟨3, f, n, k, s⟩)] w fun e w' => ∃ x, e = .returned (.int .i64 x) ∧ DoesW w B D m S L ⟨3, f, n, k, s⟩ x w' := by
  have hf := wf.nm
  simp only at hf
  refine does_drop _ f s n k w fun w1 b1 => ?_
  by_cases hE : findE S f = 0
  · obtain ⟨hd, hnm, l, hl⟩ := findE_zero hE
    have h64 := (nameB_size hnm).2
    have hc : (Chg.drop f).may S.now := h64
    refine (drop_yes f (h.below b1) (by omega) hE hd (mayAll_append ok.may (ok.now.may hc)) hc (by omega) ok.trip ok.keep).mono fun e w' hh => ?_
    exact DoesW.note (a := ⟨3, f, _, k, s⟩) (c := .drop f) hm ok hd b1 ⟨rfl, rfl⟩ hnm (fun e => by simp at e) hc (fun _ => .inl (sz_doF h.g2.uniq _ hc (fun _ _ _ e => by cases e))) hh
  · refine (drop_no f (h.below b1) (by omega) hE).mono fun e w' hh => ?_
    obtain ⟨rfl, rfl⟩ := hh
    exact ⟨_, rfl, .stay h hm ok b1 (.no _ hE ⟨by simp, by simp⟩ (fun e => absurd e (findE_not7 S f).1) (findE_not7 S f).2)⟩
theorem act_sync (f s : Nm) (n k : Int) (h : DkL w B D m S L) (ok : Ok S) (hm : m + 2 * S.row.length < 99990) :
    Calls Try.prog 12 #[.pointer (some ⟨D, 0, none⟩), (Act.val ⟨4, f, n, k, s⟩)] w fun e w' => ∃ x, e = .returned (.int .i64 x) ∧ DoesW w B D m S L ⟨4, f, n, k, s⟩ x w' := by
  refine does_sync _ f s n k w fun w1 b1 => ?_
  by_cases hd : S.down = true
  · refine (sync_down (h.below b1) hd).mono fun e w' hh => ?_
    obtain ⟨rfl, rfl⟩ := hh
    exact ⟨8, rfl, .stay h hm ok b1 (.no 8 (by decide) ⟨by simp, by simp⟩ (fun e => by omega) (fun _ => rfl))⟩
  · have hd : S.down = false := by simpa using hd
    refine (sync_any (h.below b1) hd ok.may hm ok.trip ok.keep).mono fun e w' hh => ?_
    obtain ⟨S1, S', L', x, rfl, d, hcnt, hS', F, hN⟩ := hh
    have kk := Counted.ok ok.may ok.now ok.trip ok.keep hd hcnt
    have hs := b1.size
    have hok : Ok S' ∧ S'.row.length ≤ S.row.length := by
      rw [hS']
      split
      · rename_i hx
        rcases hcnt with ⟨_, _, e⟩ | ⟨_, e, _⟩
        · refine ⟨⟨trivial, ?_, kk.1.trip, kk.1.keep, fun _ => rfl⟩, Nat.zero_le _⟩
          simp only [doAll, List.foldl_nil]
          rw [e]
          exact ok.now
        · omega
      · exact kk
    refine ⟨x, rfl, S', L', d.mono (by omega) (by omega), hok.1, .sync S1 S' x hd rfl hcnt hS', by have := hok.2; omega, (Fr.of_below b1 (fun _ => False)).trans F (fun _ _ h => h.elim) (fun _ _ h => h), fun q hq => ?_⟩
    rcases hN q hq with hh | hh
    · exact .inl hh
    · right; omega
theorem act_fail (f s : Nm) (n k : Int) (wf : Act.Wf ⟨5, f, n, k, s⟩) (h : DkL w B D m S L) (ok : Ok S) (hm : m + 2 * S.row.length < 99990) :
    Calls Try.prog 12 #[.pointer (some ⟨D, 0, none⟩), (Act.val ⟨5, f, n, k, s⟩)] w fun e w' => ∃ x, e = .returned (.int .i64 x) ∧ DoesW w B D m S L ⟨5, f, n, k, s⟩ x w' := by
  have hn := wf.n
  simp only at hn
  refine (does_fail _ f s n k w (Post := fun w' => DoesW w B D m S L ⟨5, f, n, k, s⟩ 0 w') fun w1 b1 => ?_).mono fun e w' hh => ⟨0, hh.1, hh.2⟩
  by_cases hd : S.down = true
  · refine (fail_down (h.below b1) hd n).mono fun e w' hh => ?_
    obtain ⟨rfl, rfl⟩ := hh
    exact ⟨rfl, .stay h hm ok b1 (.gone hd rfl)⟩
  · have hd : S.down = false := by simpa using hd
    refine (fail_up (h.below b1) hd ok.may (by omega) n hn.2).mono fun e w' hh => ?_
    obtain ⟨rfl, N, L', d, hA, F, hN⟩ := hh
    have hs := b1.size
    refine ⟨rfl, _, L', d.mono (by omega) (by omega), ⟨trivial, hA, by simp, by simp, fun _ => rfl⟩, .fail N hd rfl hA, Nat.zero_le _, (Fr.of_below b1 (fun _ => False)).trans F (fun _ _ h => h.elim) (fun _ _ h => h), fun q hq => ?_⟩
    rcases hN q hq with hh | hh
    · exact .inl hh
    · right; omega
theorem set_does {w1 w' : World} {S' : St} {a : Act} (hm : m + 2 * S.row.length < 99990) (b1 : Below w.heap.size w w1) (d : DkL w' B D m S' L) (hr : S'.row.length ≤ S.row.length) (ok : Ok S') (st : Step a S S' 0) (F : Fr w1 w' (fun q => q = D)) : DoesW w B D m S L a 0 w' :=
  ⟨S', L, d.mono (by omega) (by omega), ok, st, Nat.le_succ_of_le hr, (Fr.of_below b1 (fun _ => False)).trans F (fun _ _ h => h.elim) (fun _ _ h => .inl h), fun q hq => .inl hq⟩
theorem act_trip (f s : Nm) (n k : Int) (wf : Act.Wf ⟨6, f, n, k, s⟩) (h : DkL w B D m S L) (ok : Ok S) (hm : m + 2 * S.row.length < 99990) :
    Calls Try.prog 12 #[.pointer (some ⟨D, 0, none⟩), (Act.val ⟨6, f, n, k, s⟩)] w fun e w' => ∃ x, e = .returned (.int .i64 x) ∧ DoesW w B D m S L ⟨6, f, n, k, s⟩ x w' := by
  have hn := wf.n
  have hk := wf.k
  simp only at hn hk
  refine (does_trip _ f s n k w (Post := fun w' => DoesW w B D m S L ⟨6, f, n, k, s⟩ 0 w') fun w1 b1 => ?_).mono fun e w' hh => ⟨0, hh.1, hh.2⟩
  refine (trip_any (h.below b1) n k).mono fun e w' hh => ?_
  obtain ⟨rfl, d, F⟩ := hh
  exact ⟨rfl, set_does hm b1 d (Nat.le_refl _) ⟨ok.may, ok.now, by simp only [atLeast]; split <;> omega, hk.2, ok.bare⟩ (.trip rfl) F⟩
theorem act_wake (f s : Nm) (n k : Int) (h : DkL w B D m S L) (ok : Ok S) (hm : m + 2 * S.row.length < 99990) :
    Calls Try.prog 12 #[.pointer (some ⟨D, 0, none⟩), (Act.val ⟨7, f, n, k, s⟩)] w fun e w' => ∃ x, e = .returned (.int .i64 x) ∧ DoesW w B D m S L ⟨7, f, n, k, s⟩ x w' := by
  refine (does_wake _ f s n k w (Post := fun w' => DoesW w B D m S L ⟨7, f, n, k, s⟩ 0 w') fun w1 b1 => ?_).mono fun e w' hh => ⟨0, hh.1, hh.2⟩
  refine (wake_any (h.below b1)).mono fun e w' hh => ?_
  obtain ⟨rfl, d, F⟩ := hh
  exact ⟨rfl, set_does hm b1 d (Nat.le_refl _) ⟨ok.may, ok.now, ok.trip, ok.keep, fun e => by cases e⟩ (.wake rfl) F⟩
theorem act_room (f s : Nm) (n k : Int) (h : DkL w B D m S L) (ok : Ok S) (hm : m + 2 * S.row.length < 99990) :
    Calls Try.prog 12 #[.pointer (some ⟨D, 0, none⟩), (Act.val ⟨8, f, n, k, s⟩)] w fun e w' => ∃ x, e = .returned (.int .i64 x) ∧ DoesW w B D m S L ⟨8, f, n, k, s⟩ x w' := by
  refine (does_room _ f s n k w (Post := fun w' => DoesW w B D m S L ⟨8, f, n, k, s⟩ 0 w') fun w1 b1 => ?_).mono fun e w' hh => ⟨0, hh.1, hh.2⟩
  refine (room_any (h.below b1) n).mono fun e w' hh => ?_
  obtain ⟨rfl, d, F⟩ := hh
  exact ⟨rfl, set_does hm b1 d (Nat.le_refl _) ⟨ok.may, ok.now, ok.trip, ok.keep, ok.bare⟩ (.room rfl) F⟩
/-- ANY ACT -/
theorem act_any (a : Act) (wf : a.Wf) (h : DkL w B D m S L) (ok : Ok S) (hm : m + 2 * S.row.length < 99990) :
    Calls Try.prog 12 #[.pointer (some ⟨D, 0, none⟩), a.val] w fun e w' => ∃ x, e = .returned (.int .i64 x) ∧ DoesW w B D m S L a x w' := by
  obtain ⟨kd, f, n, k, s⟩ := a
  by_cases h0 : kd = 0
  · subst h0; exact act_put f s n k wf h ok hm
  by_cases h1 : kd = 1
  · subst h1; exact act_trim f s n k wf h ok hm
  by_cases h2 : kd = 2
  · subst h2; exact act_move f s n k wf h ok hm
  by_cases h3 : kd = 3
  · subst h3; exact act_drop f s n k wf h ok hm
  by_cases h4 : kd = 4
  · subst h4; exact act_sync f s n k h ok hm
  by_cases h5 : kd = 5
  · subst h5; exact act_fail f s n k wf h ok hm
  by_cases h6 : kd = 6
  · subst h6; exact act_trip f s n k wf h ok hm
  by_cases h7 : kd = 7
  · subst h7; exact act_wake f s n k h ok hm
  by_cases h8 : kd = 8
  · subst h8; exact act_room f s n k h ok hm
  have hk : kd < 0 ∨ 8 < kd := by omega
  refine (does_none _ f s n k kd w hk).mono fun e w' hh => ?_
  exact ⟨0, hh.1, .stay h hm ok hh.2 (.other hk)⟩
end
theorem room_nil (n : Int) (w : World) : Calls Try.prog 19 #[.pointer none, .int .i64 n] w fun e w' => e = .returned (.tuple #[]) ∧ w = w' := by
  go_enter Try.func19, Try.ntmps19
  go_wp2_with fail
  (first | go_end0 | (simp only [Exit.inBlock, Exit.then]; refine bodyPost_ret (results_none rfl _ _ _) rfl ?_) | refine bodyPost_ret (results_none rfl _ _ _) rfl ?_)
  exact ⟨rfl, rfl⟩
/-- an act on no disk -/
theorem act_nil (a : Act) (w : World) : Calls Try.prog 12 #[.pointer none, a.val] w fun e w' => ∃ x : Int, e = .returned (.int .i64 x) ∧ (0 ≤ a.kd ∧ a.kd ≤ 4 → x = 1) ∧ Below w.heap.size w w' := by
  obtain ⟨kd, f, n, k, s⟩ := a
  have one : ∀ {w1 : World} {g : FuncId} {args : Array Value}, Below w.heap.size w w1 → Calls Try.prog g args w1 (fun e w' => e = .returned (.int .i64 1) ∧ w1 = w') → Calls Try.prog g args w1 (fun e w' => ∃ x : Int, e = .returned (.int .i64 x) ∧ ((0 ≤ kd ∧ kd ≤ 4 → x = 1) ∧ Below w.heap.size w w')) := fun b1 c => c.mono fun e w' hh => by
    obtain ⟨rfl, rfl⟩ := hh
    exact ⟨1, rfl, fun _ => rfl, b1⟩
  have two : ∀ {w1 : World} {g : FuncId} {args : Array Value}, Below w.heap.size w w1 → Calls Try.prog g args w1 (fun e w' => e = .returned (.tuple #[]) ∧ w1 = w') → Calls Try.prog g args w1 (fun e w' => e = .returned (.tuple #[]) ∧ Below w.heap.size w w') := fun b1 c => c.mono fun e w' hh => by
    obtain ⟨rfl, rfl⟩ := hh
    exact ⟨rfl, b1⟩
  by_cases h0 : kd = 0
  · subst h0; exact does_put _ f s n k w (Post := fun x w' => (_ → x = 1) ∧ Below w.heap.size w w') fun w1 b1 => one b1 (put_nil f s n w1)
  by_cases h1 : kd = 1
  · subst h1; exact does_trim _ f s n k w (Post := fun x w' => (_ → x = 1) ∧ Below w.heap.size w w') fun w1 b1 => one b1 (trim_nil f n w1)
  by_cases h2 : kd = 2
  · subst h2; exact does_move _ f s n k w (Post := fun x w' => (_ → x = 1) ∧ Below w.heap.size w w') fun w1 b1 => one b1 (move_nil f s w1)
  by_cases h3 : kd = 3
  · subst h3; exact does_drop _ f s n k w (Post := fun x w' => (_ → x = 1) ∧ Below w.heap.size w w') fun w1 b1 => one b1 (drop_nil f w1)
  by_cases h4 : kd = 4
  · subst h4; exact does_sync _ f s n k w (Post := fun x w' => (_ → x = 1) ∧ Below w.heap.size w w') fun w1 b1 => one b1 (sync_nil w1)
  by_cases h5 : kd = 5
  · subst h5; exact (does_fail _ f s n k w (Post := fun w' => Below w.heap.size w w') fun w1 b1 => two b1 (fail_nil n w1)).mono fun e w' hh => ⟨0, hh.1, fun h => by simp at h, hh.2⟩
  by_cases h6 : kd = 6
  · subst h6; exact (does_trip _ f s n k w (Post := fun w' => Below w.heap.size w w') fun w1 b1 => two b1 (trip_nil n k w1)).mono fun e w' hh => ⟨0, hh.1, fun h => by simp at h, hh.2⟩
  by_cases h7 : kd = 7
  · subst h7; exact (does_wake _ f s n k w (Post := fun w' => Below w.heap.size w w') fun w1 b1 => two b1 (wake_nil w1)).mono fun e w' hh => ⟨0, hh.1, fun h => by simp at h, hh.2⟩
  by_cases h8 : kd = 8
  · subst h8; exact (does_room _ f s n k w (Post := fun w' => Below w.heap.size w w') fun w1 b1 => two b1 (room_nil n w1)).mono fun e w' hh => ⟨0, hh.1, fun h => by simp at h, hh.2⟩
  have hk : kd < 0 ∨ 8 < kd := by omega
  refine (does_none none f s n k kd w hk).mono fun e w' hh => ?_
  exact ⟨0, hh.1, fun h => by simp only at h; omega, hh.2⟩
end Go.Proofs.Ytejmoaloomnmkaa
