/-
  raft: THE BYTES OF NUMBERS: nums.
-/
import Derived.Test.YtkdaifcnlobhkaaNck
import Derived.Deep.RegionHeld3
namespace Go.Proofs.Ytkdaifcnlobhkaa
open Go.RowKit
def Ints (w : World) (a : Option Addr) (xs : List Int) : Prop := ∀ i (h : i < xs.length), ∃ b o, a = some ⟨b, o, none⟩ ∧ b < w.heap.size ∧ w.cell? ⟨b, o + i, none⟩ = some (.int .i64 xs[i])
theorem Ints.below {w w' : World} {a : Option Addr} {xs : List Int} (h : Ints w a xs) (hb : Below w.heap.size w w') : Ints w' a xs := fun i hi => by
  obtain ⟨b, o, e, hl, hc⟩ := h i hi
  exact ⟨b, o, e, Nat.lt_of_lt_of_le hl hb.size, by rw [hb.cell (p := ⟨b, _, none⟩) hl]; exact hc⟩
theorem Blk.ints {w : World} {g t : Nat} {P : List Int} (h : Blk w g t (P.map (Value.int .i64)).toArray) : Ints w (some ⟨g, 0, none⟩) P := fun i hi => by
  refine ⟨g, 0, rfl, h.lt, ?_⟩
  rw [Nat.zero_add, h.cell i]
  simp [hi]
theorem Blk.drew {w : World} {g t : Nat} {cs : Array Value} (h : Blk w g t cs) : Blk w.drew g t cs := h
theorem Blk.al {w : World} {g t : Nat} {cs : Array Value} (h : Blk w g t cs) (o : Obj) : Blk (w.alloc o) g t cs := h.below ((Below.refl _ w).alloc (Nat.le_refl _) o) h.lt
theorem Blk.new2 (w : World) (t : TypeId) (cs : Array Value) {g : Nat} (h : g = w.heap.size) : Blk (w.alloc (.cells cs t)) g t cs := h ▸ Blk.new w t cs
theorem Blk.over {w w' : World} {g t : Nat} {cs : Array Value} (h : Blk w g t cs) (b : Below w.heap.size w w') : Blk w' g t cs := h.below b h.lt
theorem belowAlloc {W w' : World} (h : Below W.heap.size W w') (o : Obj) : Below W.heap.size W (w'.alloc o) := h.alloc h.size o
theorem belowTrans {W w' w2 : World} (h : Below W.heap.size W w') (b : Below w'.heap.size w' w2) : Below W.heap.size W w2 := h.trans (b.mono h.size)
def catN (l : List Int) : ByteArray := l.foldl (fun s n => s ++ Bt.numS n) ⟨#[]⟩
theorem catN_snoc (l : List Int) (n : Int) : catN (l ++ [n]) = catN l ++ Bt.numS n := by unfold catN; rw [List.foldl_append]; rfl
theorem catN_aux (l : List Int) : ∀ s : ByteArray, (l.foldl (fun s n => s ++ Bt.numS n) s).size ≤ s.size + 9 * l.length := by
  induction l with
  | nil => intro s; exact Nat.le_add_right _ _
  | cons n l ih =>
    intro s
    have h1 := ih (s ++ Bt.numS n)
    have h2 := Bt.numS_size n
    rw [ByteArray.size_append] at h1
    rw [List.foldl_cons, List.length_cons]
    omega
theorem catN_size (l : List Int) : (catN l).size ≤ 9 * l.length := by
  have h : (catN l).size ≤ (ByteArray.mk #[]).size + 9 * l.length := catN_aux l ⟨#[]⟩
  have e : (ByteArray.mk #[]).size = 0 := rfl
  omega
set_option maxHeartbeats 8000000 in
set_option maxRecDepth 100000 in
theorem nums_any (P : List Int) (a : Option Addr) (cp : Nat) (w : World) (hI : Ints w a P) (hP : ∀ x ∈ P, 0 ≤ x ∧ x ≤ 9223372036854775807) (hl : P.length ≤ 100) : Calls Try.prog 41 #[.slice a P.length cp] w fun e w' => e = .returned (.string (catN P)) ∧ Below w.heap.size w w' := by
  have HI := Lib.hid hI
  have HP := Lib.hid hP
  clear hI hP
  generalize hm : P.length = m at *
  have HM := Lib.hid hm
  clear hm
  go_enter Try.func41, Try.ntmps41
  go_wp2_with fail
  go_loopw [3, 8] (fun s i wq => ∃ j : Nat, s = .string (catN (P.take j)) ∧ i = .int .i64 (j : Int) ∧ j ≤ m ∧ Below w.heap.size w wq) (fun _ i _ => m - (intOf i).toNat)
  case atStart => exact ⟨0, rfl, rfl, Nat.zero_le _, Below.refl _ _⟩
  case round =>
    obtain ⟨j, rfl, rfl, hjm, hb⟩ := hrel
    have HB := Lib.hid hb
    clear hb
    by_cases hlt : j < m
    rotate_left
    · have hlt' : ¬ (j : Int) < (m : Int) := by omega
      have RH : Hid (catN (P.take j) = catN P) := Lib.hid (by rw [List.take_of_length_le (by rw [HM.out]; omega)])
      go_wp2_with fail
      go_ret
      exact ⟨by first | (rw [RH.out]; done) | (rw [← RH.out]; rfl), HB.out⟩
    have hlt' : (j : Int) < (m : Int) := by omega
    have hjL : j < P.length := by rw [HM.out]; exact hlt
    obtain ⟨g, o, e, hg, d0⟩ := HI.out.below HB.out j hjL
    subst e
    have hp := HP.out P[j] (List.getElem_mem hjL)
    have HC : Hid (catN (P.take (j + 1)) = catN (P.take j) ++ Bt.numS P[j]) := Lib.hid (by rw [List.take_succ_eq_append_getElem hjL, catN_snoc])
    have NA := Lib.hid (Bt.num_any P[j] hp.1 (by omega) wr)
    have hs := catN_size (P.take j)
    rw [List.length_take] at hs
    have hs2 := Bt.numS_size P[j]
    have hu : IntKind.u64.wrap P[j] = P[j] := IntWalk.u64_in _ (by omega)
    clear hg
    generalize P[j] = x at *
    generalize Bt.numS x = B at *
    generalize catN (P.take j) = A at *
    have q1 : ¬ (9223372036854775807 < A.size + B.size) := by omega
    clear hs hs2
    go_wp2_with fail
    refine NA.out.mono ?_
    rintro e w3 ⟨rfl, b3⟩
    have B3 := Lib.hid (HB.out.trans (b3.mono HB.out.size))
    clear b3
    go_wp2_with fail
    go_roundw
    case rel => exact ⟨j + 1, by rw [HC.out], by go_num, by omega, B3.out⟩
    case measure => simp [intOf]; omega
def Okn (n : Int) : Prop := 0 ≤ n ∧ n ≤ 9223372036854775807
theorem numsB (P : List Int) {g : Nat} {cs : Array Value} (hc : cs = (P.map (Value.int .i64)).toArray) {m : Nat} (hm : m = P.length) (hP : ∀ x ∈ P, Okn x) (hl : P.length ≤ 100) (W : World) (k : Blk W g 3 cs) : Calls Try.prog 41 #[.slice (some ⟨g, 0, none⟩) m m] W fun e w' => e = .returned (.string (catN P)) ∧ Below W.heap.size W w' := by
  subst hc
  subst hm
  exact nums_any P _ _ W k.ints hP hl
end Go.Proofs.Ytkdaifcnlobhkaa
