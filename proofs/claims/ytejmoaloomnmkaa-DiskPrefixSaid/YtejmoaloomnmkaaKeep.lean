/-
  ANY CHANGE IS DONE; what is kept of a row.
-/
import Derived.Test.YtejmoaloomnmkaaDo3
import Derived.Test.YtejmoaloomnmkaaCost
namespace Go.Proofs.Ytejmoaloomnmkaa
open Go.RowKit
theorem do_any {w : World} {B D M n T o m : Nat} {cs : Array Value} {fs : Fm} {V : Nm → Value} (c : Chg) (h : Fls w B M n fs V) (hB : Blk w D T cs) (h0 : cs[o]? = some (.map (some M))) (h1 : cs[o + 1]? = some (.int .i64 (sz fs))) (hF : ¬ Foot M V D) (hBD : B ≤ w.heap.size)
    (hG : Good fs m) (hm : m ≤ 100000) (hn : n < 1000000) (hc : c.may fs) : Calls Try.prog 31 #[.pointer (some ⟨D, o, none⟩), c.val] w (Done w B D M (n + 1) T o cs V (c.doF fs)) := by
  cases c with
  | put f a s => exact do_put h hB h0 h1 hF hBD hG hm hn hc.1 hc.2.1 hc.2.2
  | trim f k => exact do_trim h hB h0 h1 hF hG hm hn hc.1 hc.2
  | move f t => exact do_move h hB h0 h1 hF hG hm hn hc.1 hc.2
  | drop f => exact do_drop h hB h0 h1 hF hG hm hn hc
/-- the row may be done, one change behind the other -/
def mayAll : Fm → List Chg → Prop
  | _, [] => True
  | fs, c :: r => c.may fs ∧ mayAll (c.doF fs) r
/-- files behind a row -/
def doAll (fs : Fm) (r : List Chg) : Fm := r.foldl (fun fs c => c.doF fs) fs
/-- of the first one that is not kept -/
def tornF (fs : Fm) (c : Chg) (k : Int) : Fm :=
  match c with
  | .put f a s => if 0 < k then (Chg.put f a (s.extract 0 (k - 1).toNat)).doF fs else fs
  | _ => fs
/-- what is kept of a row -/
def keepF : Fm → List Chg → Int → Fm
  | fs, [], _ => fs
  | fs, c :: r, k => if k < c.cost then tornF fs c k else keepF (c.doF fs) r (k - c.cost)
theorem mayAll_at {fs : Fm} {r : List Chg} {i : Nat} (h : mayAll fs r) (hi : i < r.length) : r[i].may (doAll fs (r.take i)) := by
  induction r generalizing fs i with
  | nil => simp at hi
  | cons c r ih =>
    cases i with
    | zero => exact h.1
    | succ i => exact ih h.2 (by simpa using hi)
theorem cost_pos (c : Chg) : 1 ≤ c.cost := by cases c <;> simp only [Chg.cost] <;> omega
theorem may_cost {c : Chg} {fs : Fm} (h : c.may fs) : c.cost ≤ 4194305 := by
  cases c with
  | put f a s => have := h.2.2; simp [Chg.cost]; omega
  | _ => simp [Chg.cost]
/-- the first of two files of a disk -/
theorem DkL.doSure {w : World} {B D m : Nat} {S : St} {L : Lie} (h : DkL w B D m S L) (hm : m < 100000) {c : Chg} (hc : c.may S.sure) :
    Calls Try.prog 31 #[.pointer (some ⟨D, 0, none⟩), c.val] w fun e w' => e = .returned (.tuple #[]) ∧ ∃ V1, DkL w' B D (m + 1) { S with sure := c.doF S.sure } { L with V1 := V1 } ∧ Fr w w' (fun q => q = D ∨ Foot L.M1 L.V1 q) ∧ ∀ q, Foot L.M1 V1 q → Foot L.M1 L.V1 q ∨ w.heap.size ≤ q := by
  refine (do_any (o := 0) c h.f1 h.blk rfl rfl h.d1 (Nat.le_trans h.base (Nat.le_of_lt h.blk.lt)) h.g1 (by omega) (by omega) hc).mono fun e w' hd => ?_
  obtain ⟨he, V1, f1, b1, F, hN⟩ := hd
  have hfoot : ∀ q, L.foot D q → q < w.heap.size := fun q hq => (h.lt hq).2
  have h2P : ∀ q, Foot L.M2 L.V2 q → ¬ (q = D ∨ Foot L.M1 L.V1 q) := fun q hq hh => by
    rcases hh with rfl | hh
    · exact h.d2 hq
    · exact h.d12 q hh hq
  have hvP : ∀ q, L.v.ownBlock = some q → ¬ (q = D ∨ Foot L.M1 L.V1 q) := fun q hq hh => by
    obtain ⟨a1, a2, _⟩ := h.dv q hq
    rcases hh with rfl | hh
    · exact a1 rfl
    · exact a2 hh
  have hrow : w'.ownsRow B 62 1 L.v S.row.length (S.row.map Chg.val) := by
    have hr := h.row
    refine ⟨hr.1, ?_⟩
    rcases hr.2 with hn | ⟨g, cap, cur, e, hB, hh, rest⟩
    · exact .inl hn
    · refine .inr ⟨g, cap, cur, e, hB, ?_, rest⟩
      rw [F.block g (Array.getElem?_eq_some_iff.1 hh).1 (hvP g (by rw [e]; rfl))]
      exact hh
  refine ⟨he, V1, ⟨b1, f1, (h.f2.fr F h2P).mono (Nat.le_succ m), hrow, h.g1.doF hc, ⟨h.g2.uniq, Nat.le_succ_of_le h.g2.few, h.g2.small⟩, Nat.le_succ_of_le h.few, fun hq => ?_, h.d2, fun q hq hq2 => ?_, fun q hq => ?_, h.base, ⟨h.calls.1, by have := h.calls.2; simp only; omega⟩, h.trip, by omega⟩, F, hN⟩
  · rcases hN D hq with hh | hh
    · exact h.d1 hh
    · have := h.blk.lt; omega
  · rcases hN q hq with hh | hh
    · exact h.d12 q hh hq2
    · have := hfoot q (.inr (.inr (.inl hq2))); omega
  · obtain ⟨a1, a2, a3⟩ := h.dv q hq
    refine ⟨a1, fun hh => ?_, a3⟩
    rcases hN q hh with hh | hh
    · exact a2 hh
    · have := hfoot q (.inr (.inr (.inr hq))); omega
end Go.Proofs.Ytejmoaloomnmkaa
