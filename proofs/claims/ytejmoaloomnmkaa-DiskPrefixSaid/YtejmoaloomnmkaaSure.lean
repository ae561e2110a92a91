/-
  WHAT IS SURE STAYS, whatever is done to other files; the calls Put, Sync, Fail, Wake, Read of one disk, one behind the other.
-/
import Derived.Test.YtejmoaloomnmkaaAct
namespace Go.Proofs.Ytejmoaloomnmkaa
open Go.RowKit
/-- a change of another file -/
def Chg.Far (F : Nm) : Chg → Prop
  | .put f _ _ => f ≠ F
  | .trim f _ => f ≠ F
  | .move f t => f ≠ F ∧ t ≠ F
  | .drop f => f ≠ F
theorem far_doF {F : Nm} {c : Chg} (h : c.Far F) (fs : Fm) : get (c.doF fs) F = get fs F := by
  cases c with
  | put f a s => exact get_put_other _ (fun e => h e.symm)
  | trim f n => exact get_put_other _ (fun e => h e.symm)
  | move f t => exact (get_put_other _ (fun e => h.2 e.symm)).trans (get_del_other (fun e => h.1 e.symm))
  | drop f => exact get_del_other (fun e => h e.symm)
theorem far_doAll {F : Nm} {r : List Chg} (h : ∀ c ∈ r, c.Far F) (fs : Fm) : get (doAll fs r) F = get fs F := by
  induction r generalizing fs with
  | nil => rfl
  | cons c r ih => exact (ih (fun d hd => h d (List.mem_cons_of_mem _ hd)) (c.doF fs)).trans (far_doF (h c List.mem_cons_self) fs)
theorem far_torn {F : Nm} {c : Chg} (h : c.Far F) (fs : Fm) (k : Int) : get (tornF fs c k) F = get fs F := by
  cases c with
  | put f a s =>
    unfold tornF
    simp only
    split
    · exact far_doF (c := .put f a (s.extract 0 (k - 1).toNat)) h fs
    · rfl
  | trim f n => rfl
  | move f t => rfl
  | drop f => rfl
theorem far_keep {F : Nm} {r : List Chg} (h : ∀ c ∈ r, c.Far F) (fs : Fm) (k : Int) : get (keepF fs r k) F = get fs F := by
  induction r generalizing fs k with
  | nil => rfl
  | cons c r ih =>
    rw [keepF_cons]
    split
    · exact far_torn (h c List.mem_cons_self) fs k
    · exact (ih (fun d hd => h d (List.mem_cons_of_mem _ hd)) (c.doF fs) _).trans (far_doF (h c List.mem_cons_self) fs)
/-- a file is sure, and nothing in the row touches it -/
def Keeps (F : Nm) (l : List UInt8) (S : St) : Prop := get S.sure F = some l ∧ ∀ c ∈ S.row, c.Far F
theorem Counted.keeps {F : Nm} {l : List UInt8} {S S' : St} {x : Int} (h : Counted S S' x) (k : Keeps F l S) : Keeps F l S' := by
  rcases h with ⟨_, _, rfl⟩ | ⟨_, _, N, rfl, _⟩
  · exact k
  · exact ⟨(far_keep k.2 _ _).trans k.1, fun c hc => by simp at hc⟩
theorem Step.keeps {F : Nm} {l : List UInt8} {a : Act} {S S' : St} {x : Int} (h : Step a S S' x) (k : Keeps F l S) (h1 : a.nm ≠ F) (h2 : a.kd = 2 → a.s ≠ F) : Keeps F l S' := by
  cases h with
  | no => exact k
  | chg c S' x hd hc hn hn2 hm hz h =>
    refine Counted.keeps h ⟨k.1, fun d hd => ?_⟩
    rcases List.mem_append.1 hd with hd | hd
    · exact k.2 d hd
    · obtain rfl := List.mem_singleton.1 hd
      cases d with
      | put f n s => rw [show f = a.nm from hc.2.1] at *; exact h1
      | trim f n => rw [show f = a.nm from hc.2.1] at *; exact h1
      | move f t => exact ⟨fun e => h1 (hc.2.1 ▸ e), fun e => h2 hc.1 (hc.2.2 ▸ e)⟩
      | drop f => exact fun e => h1 (hc.2 ▸ e)
  | sync S1 S' x hd hk h h' =>
    have k1 := Counted.keeps h k
    rw [h']
    split
    · exact ⟨(far_doAll k.2 _).trans k.1, fun c hc => by simp at hc⟩
    · exact k1
  | fail N hd hk hN => exact ⟨(far_keep k.2 _ _).trans k.1, fun c hc => by simp at hc⟩
  | gone => exact k
  | trip => exact k
  | wake => exact k
  | room => exact k
  | other => exact k
/-! ### the calls, one by one -/
section
variable {w : World} {B D m : Nat} {S : St} {L : Lie}
/-- a disk and its state, where it lies left open -/
def Dsk (w : World) (B D m : Nat) (S : St) : Prop := ∃ L, DkL w B D m S L
theorem Dsk.below {w' : World} (h : Dsk w B D m S) (hb : Below w.heap.size w w') : Dsk w' B D m S := by
  obtain ⟨L, h⟩ := h
  exact ⟨L, h.below hb⟩
theorem Fr.foot {w' : World} (h : DkL w B D m S L) (F : Fr w w' (L.foot D)) : Below B w w' := F.below (fun _ hq => (h.lt hq).1) (Nat.le_trans h.base (Nat.le_of_lt h.blk.lt))
theorem putd {n : Nat} (f s : Nm) (h : Dsk w B D m S) (ok : Ok S) (hm : m + 2 * S.row.length < 99990) (hd : S.down = false) (ht : S.trip = 0) (hr : S.room < 0) (hn : nameB f = true) (hl : n ≤ (gl S.now f).length) (h4 : n + s.size ≤ 4194304) :
    Calls Try.prog 9 #[.pointer (some ⟨D, 0, none⟩), .string f, .int .i64 n, .string s] w fun e w' => e = .returned (.int .i64 0) ∧
      Dsk w' B D (m + 2 * S.row.length + 5) { S with row := S.row ++ [.put f n s], now := (Chg.put f n s).doF S.now, calls := S.calls + 1 } ∧
      Ok { S with row := S.row ++ [.put f n s], now := (Chg.put f n s).doF S.now, calls := S.calls + 1 } ∧ Below B w w' := by
  obtain ⟨L, h⟩ := h
  have h64 := (nameB_size hn).2
  have hc : (Chg.put f n s).may S.now := ⟨h64, hl, h4⟩
  refine (put_yes f s n h hd (by omega) (fun hb => ?_) (fun hb => ?_) (mayAll_append ok.may (ok.now.may hc)) hc (by omega) ok.trip ok.keep).mono fun e w' hh => ?_
  · rcases hb with hb | hb | hb | hb
    · rw [hn] at hb; cases hb
    · omega
    · omega
    · omega
  · have := hb.1; omega
  · obtain ⟨S', L', x, rfl, d, hcnt, F, hN⟩ := hh
    have k := Counted.ok (S := { S with row := S.row ++ [.put f n s], now := (Chg.put f n s).doF S.now }) (mayAll_append ok.may (ok.now.may hc)) (by simp only [doAll_append]; exact ok.now.doF _) ok.trip ok.keep hd hcnt
    rcases hcnt with ⟨_, rfl, e⟩ | ⟨e, _⟩
    · simp only [ht, if_true] at e
      have e' : S' = { S with row := S.row ++ [.put f n s], now := (Chg.put f n s).doF S.now, calls := S.calls + 1 } := by rw [e, ← ht]
      rw [e'] at d k
      exact ⟨rfl, ⟨L', d.mono (by omega) (by omega)⟩, k.1, Fr.foot h F⟩
    · simp only at e; omega
theorem syncd (h : Dsk w B D m S) (ok : Ok S) (hm : m + 2 * S.row.length < 99990) (hd : S.down = false) (ht : S.trip = 0) :
    Calls Try.prog 10 #[.pointer (some ⟨D, 0, none⟩)] w fun e w' => e = .returned (.int .i64 0) ∧
      Dsk w' B D (m + 2 * S.row.length + 2) { S with sure := doAll S.sure S.row, row := [], calls := S.calls + 1 } ∧ Ok { S with sure := doAll S.sure S.row, row := [], calls := S.calls + 1 } ∧ Below B w w' := by
  obtain ⟨L, h⟩ := h
  refine (sync_any h hd ok.may hm ok.trip ok.keep).mono fun e w' hh => ?_
  obtain ⟨S1, S', L', x, rfl, d, hcnt, hS', F, hN⟩ := hh
  rcases hcnt with ⟨_, rfl, e⟩ | ⟨e, _⟩
  · simp only [ht, if_true] at e
    have e' : S' = { S with sure := doAll S.sure S.row, row := [], calls := S.calls + 1 } := by rw [hS', if_pos rfl, e, ← ht]
    rw [e'] at d
    exact ⟨rfl, ⟨L', d⟩, ⟨trivial, ok.now, ok.trip, ok.keep, fun _ => rfl⟩, Fr.foot h F⟩
  · omega
/-- the power fails, whether it is there or not -/
theorem faild (k : Int) (h : Dsk w B D m S) (ok : Ok S) (hm : m + 2 * S.row.length < 99990) (hk : k ≤ 9223372036854775807) :
    Calls Try.prog 13 #[.pointer (some ⟨D, 0, none⟩), .int .i64 k] w fun e w' => e = .returned (.tuple #[]) ∧ ∃ S', Dsk w' B D (m + S.row.length + 1) S' ∧ Ok S' ∧ S'.down = true ∧ (S.down = true → S' = S) ∧ (S.down = false → ∃ N, S' = { S with sure := keepF S.sure S.row (atLeast k 0), now := N, row := [], trip := 0, keep := 0, down := true } ∧ Alike N (keepF S.sure S.row (atLeast k 0))) ∧ Below B w w' := by
  obtain ⟨L, h⟩ := h
  by_cases hd : S.down = true
  · refine (fail_down h hd k).mono fun e w' hh => ?_
    obtain ⟨rfl, rfl⟩ := hh
    exact ⟨rfl, S, ⟨L, h.mono (by omega) (by omega)⟩, ok, hd, fun _ => rfl, fun e => by (rw [hd] at e; cases e), Below.refl _ _⟩
  · have hd : S.down = false := by simpa using hd
    refine (fail_up h hd ok.may (by omega) k hk).mono fun e w' hh => ?_
    obtain ⟨rfl, N, L', d, hA, F, hN⟩ := hh
    exact ⟨rfl, _, ⟨L', d⟩, ⟨trivial, hA, by simp, by simp, fun _ => rfl⟩, rfl, fun e => by (rw [hd] at e; cases e), fun _ => ⟨N, rfl, hA⟩, Fr.foot h F⟩
theorem waked (h : Dsk w B D m S) (ok : Ok S) : Calls Try.prog 14 #[.pointer (some ⟨D, 0, none⟩)] w fun e w' => e = .returned (.tuple #[]) ∧ Dsk w' B D m { S with down := false } ∧ Ok { S with down := false } ∧ Below B w w' := by
  obtain ⟨L, h⟩ := h
  refine (wake_any h).mono fun e w' hh => ?_
  obtain ⟨rfl, d, F⟩ := hh
  exact ⟨rfl, ⟨L, d⟩, ⟨ok.may, ok.now, ok.trip, ok.keep, fun e => by cases e⟩, F.below (fun q hq => by rw [hq]; exact h.base) (Nat.le_trans h.base (Nat.le_of_lt h.blk.lt))⟩
theorem readd (h : Dsk w B D m S) (s : Nm) (hs : s.size ≤ 9223372036854775807) : Calls Try.prog 15 #[.pointer (some ⟨D, 0, none⟩), .string s] w fun e w' => e = .returned (.tuple #[.string (readV S s).1, .int .i64 (readV S s).2]) ∧ w = w' := by
  obtain ⟨L, h⟩ := h
  exact read_any h s hs
theorem newd (w : World) : Calls Try.prog 7 #[] w fun e w' => ∃ D, e = .returned (.pointer (some ⟨D, 0, none⟩)) ∧ Dsk w' w.heap.size D 0 st0 ∧ Below w.heap.size w w' :=
  (new_any (Nat.le_refl _)).mono fun e w' hh => by
    obtain ⟨D, rfl, ⟨L, d, _⟩, b, _⟩ := hh
    exact ⟨D, rfl, ⟨L, d⟩, b⟩
theorem ok0 : Ok st0 := ⟨trivial, fun _ => rfl, by simp [st0], by simp [st0], fun e => by cases e⟩
theorem downd (h : Dsk w B D m S) : Calls Try.prog 20 #[.pointer (some ⟨D, 0, none⟩)] w fun e w' => e = .returned (.bool S.down) ∧ w = w' := by
  obtain ⟨L, h⟩ := h
  exact down_any h
end
end Go.Proofs.Ytejmoaloomnmkaa
