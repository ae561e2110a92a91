/-
  A DISK IN MEMORY.
-/
import Derived.Test.YtejmoaloomnmkaaName
namespace Go.Proofs.Ytejmoaloomnmkaa
open Go.RowKit
/-- a disk -/
structure St where
  sure : Fm
  now : Fm
  row : List Chg
  room : Int
  calls : Int
  trip : Int
  keep : Int
  down : Bool
def dcells (M1 M2 : Nat) (v : Value) (S : St) : Array Value :=
  #[.map (some M1), .int .i64 (sz S.sure), .map (some M2), .int .i64 (sz S.now), v, .int .i64 S.room, .int .i64 S.calls, .int .i64 S.trip, .int .i64 S.keep, .bool S.down]
/-- where it lies -/
structure Lie where
  M1 : Nat
  M2 : Nat
  V1 : Nm → Value
  V2 : Nm → Value
  v : Value
/-- the blocks of a disk -/
def Lie.foot (L : Lie) (D q : Nat) : Prop := q = D ∨ Foot L.M1 L.V1 q ∨ Foot L.M2 L.V2 q ∨ L.v.ownBlock = some q
structure DkL (w : World) (B D m : Nat) (S : St) (L : Lie) : Prop where
  blk : Blk w D 54 (dcells L.M1 L.M2 L.v S)
  f1 : Fls w B L.M1 m S.sure L.V1
  f2 : Fls w B L.M2 m S.now L.V2
  row : w.ownsRow B 62 1 L.v S.row.length (S.row.map Chg.val)
  g1 : Good S.sure m
  g2 : Good S.now m
  few : S.row.length ≤ m
  d1 : ¬ Foot L.M1 L.V1 D
  d2 : ¬ Foot L.M2 L.V2 D
  d12 : ∀ q, Foot L.M1 L.V1 q → ¬ Foot L.M2 L.V2 q
  dv : ∀ q, L.v.ownBlock = some q → q ≠ D ∧ ¬ Foot L.M1 L.V1 q ∧ ¬ Foot L.M2 L.V2 q
  base : B ≤ D
  calls : 0 ≤ S.calls ∧ S.calls ≤ m
  trip : 0 ≤ S.trip
  low : m ≤ 100000
def Dk (w : World) (B D m : Nat) (S : St) (F : Nat → Prop) : Prop := ∃ L, DkL w B D m S L ∧ ∀ q, L.foot D q → F q
theorem DkL.lt {w : World} {B D m : Nat} {S : St} {L : Lie} (h : DkL w B D m S L) {q : Nat} (hq : L.foot D q) : B ≤ q ∧ q < w.heap.size := by
  rcases hq with rfl | hq | hq | hq
  · exact ⟨h.base, h.blk.lt⟩
  · exact h.f1.lt hq
  · exact h.f2.lt hq
  · exact World.ownsRow.lt h.row q hq
theorem DkL.fr {w w' : World} {B D m : Nat} {S : St} {L : Lie} {P : Nat → Prop} (h : DkL w B D m S L) (hf : Fr w w' P) (hP : ∀ q, L.foot D q → ¬ P q) : DkL w' B D m S L := by
  refine { h with blk := h.blk.fr hf (hP D (.inl rfl)), f1 := h.f1.fr hf (fun q hq => hP q (.inr (.inl hq))), f2 := h.f2.fr hf (fun q hq => hP q (.inr (.inr (.inl hq)))), row := ?_ }
  have hr := h.row
  refine ⟨hr.1, ?_⟩
  rcases hr.2 with hn | ⟨g, cap, cur, e, hB, hh, rest⟩
  · exact .inl hn
  · refine .inr ⟨g, cap, cur, e, hB, ?_, rest⟩
    rw [hf.block g (Array.getElem?_eq_some_iff.1 hh).1 (hP g (.inr (.inr (.inr (by rw [e]; rfl)))))]
    exact hh
theorem DkL.below {w w' : World} {B D m : Nat} {S : St} {L : Lie} (h : DkL w B D m S L) (hb : Below w.heap.size w w') : DkL w' B D m S L := h.fr (Fr.of_below hb (fun _ => False)) (fun _ _ h => h)
/-- whether it is ready -/
def readyE (S : St) : Int := if S.down then 8 else 0
theorem ready_nil (w : World) : Calls Try.prog 26 #[.pointer none] w fun e w' => e = .returned (.int .i64 1) ∧ w = w' := by
  go_enter Try.func26, Try.ntmps26
  go_wp2_with fail
  go_ret
  exact ⟨rfl, rfl⟩
theorem ready_any {w : World} {D : Nat} {t : TypeId} {M1 M2 : Nat} {v : Value} {S : St} (h : Blk w D t (dcells M1 M2 v S)) : Calls Try.prog 26 #[.pointer (some ⟨D, 0, none⟩)] w fun e w' => e = .returned (.int .i64 (readyE S)) ∧ w = w' := by
  have c : w.cell? ⟨D, 9, none⟩ = some (.bool S.down) := h.cell 9
  unfold readyE
  generalize S.down = b at *
  clear h
  cases b
  · go_enter Try.func26, Try.ntmps26
    go_wp2_with fail
    go_ret
    exact ⟨rfl, rfl⟩
  · go_enter Try.func26, Try.ntmps26
    go_wp2_with fail
    go_ret
    exact ⟨rfl, rfl⟩
/-- 'files{named: map[string][]byte{}}' -/
theorem blank_any {w : World} {B : Nat} (hB : B ≤ w.heap.size) : Calls Try.prog 25 #[] w fun e w' => ∃ M, e = .returned (.agg #[.map (some M), .int .i64 0]) ∧ Fls w' B M 0 [] (fun _ => nilS) ∧ Below w.heap.size w w' ∧ w.heap.size ≤ M := by
  have hmm := @run_makeMap Try.prog
  go_enter Try.func25, Try.ntmps25
  go_wp2_with fail
  refine bodyPost_ret (by simp [results, Try.results25, go_sem]; try rfl) rfl ?_
  refine ⟨w.heap.size + 1, rfl, ?_, ((Below.refl _ _).alloc (Nat.le_refl _) _).alloc (by simp) _, by omega⟩
  have := Fls.made (w.alloc (Obj.cells #[.map (some (w.heap.size + 1)), .int .i64 0] 50)) (B := B) (by simp; omega)
  simpa using this
/-- New -/
def st0 : St := ⟨[], [], [], -1, 0, 0, 0, false⟩
theorem good_nil (m : Nat) : Good [] m := ⟨List.Pairwise.nil, Nat.zero_le _, fun p hp => by simp at hp⟩
theorem foot_nil {M q : Nat} (h : Foot M (fun _ => nilS) q) : q = M := by
  rcases h with h | ⟨s, e⟩
  · exact h
  · simp [nilS, Value.ownBlock] at e
theorem new_any {w : World} {B : Nat} (hB : B ≤ w.heap.size) : Calls Try.prog 7 #[] w fun e w' => ∃ D, e = .returned (.pointer (some ⟨D, 0, none⟩)) ∧ Dk w' B D 0 st0 (fun q => w.heap.size ≤ q) ∧ Below w.heap.size w w' ∧ w.heap.size ≤ D := by
  go_enter Try.func7, Try.ntmps7
  go_wp2_with fail
  refine (blank_any hB).mono ?_
  rintro e w1 ⟨M1, rfl, h1, b1, l1⟩
  have H1 := Lib.hid h1
  have hM1 := (h1.lt (.inl rfl)).2
  clear h1
  go_wp2_with fail
  refine (blank_any (B := B) (Nat.le_trans hB b1.size)).mono ?_
  rintro e w2 ⟨M2, rfl, h2, b2, l2⟩
  have H2 := Lib.hid h2
  have hM2 := (h2.lt (.inl rfl)).2
  have BB := Lib.hid (b1.trans (b2.mono b1.size))
  have H1' := Lib.hid (H1.out.below b2)
  have hs1 := b1.size
  have hs2 := b2.size
  clear h2 b1 b2
  go_wp2_with fail
  go_ret
  have b3 : Below w2.heap.size w2 (w2.alloc (Obj.cells (dcells M1 M2 nilS st0) 54)) := (Below.refl _ _).alloc (Nat.le_refl _) _
  refine ⟨w2.heap.size, rfl, ⟨⟨M1, M2, fun _ => nilS, fun _ => nilS, nilS⟩, ?_, ?_⟩, BB.out.trans (b3.mono BB.out.size), by omega⟩
  · refine ⟨Blk.new _ _ _, H1'.out.below b3, H2.out.below b3, World.ownsRow_nil _ _ _ _, good_nil _, good_nil _, Nat.le_refl _, fun h => ?_, fun h => ?_, fun q h h' => ?_, fun q h => ?_, by omega, ⟨Int.le_refl _, Int.le_refl _⟩, Int.le_refl _, Nat.zero_le _⟩
    · have := foot_nil h; simp only at this; omega
    · have := foot_nil h; simp only at this; omega
    · have e1 := foot_nil h; have e2 := foot_nil h'; simp only at e1 e2; omega
    · simp [nilS, Value.ownBlock] at h
  · intro q hq
    rcases hq with rfl | hq | hq | hq
    · show w.heap.size ≤ w2.heap.size; omega
    · have := foot_nil hq; simp only at this; show w.heap.size ≤ q; omega
    · have := foot_nil hq; simp only at this; show w.heap.size ≤ q; omega
    · simp [nilS, Value.ownBlock] at hq
end Go.Proofs.Ytejmoaloomnmkaa
