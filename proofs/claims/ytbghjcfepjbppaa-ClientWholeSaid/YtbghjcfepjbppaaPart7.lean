/-
  WHAT THE ROWS REST ON, part 7: Bdm BTake BMeths Bmm Bco Bcu Brf Bbd Bbe Bbf Bbg.
-/
import Derived.BigQuiet
import Derived.WalkKit
import Derived.Handy
import Derived.Deep.AppendLies
import Derived.Deep.RegionLaw
import Derived.Laws.OwnMore
import Derived.Lib.QuietBelow
import Derived.Deep.QuietTactic
import Derived.Deep.LoopGhost
import Derived.RegionTactic
import Derived.LoopTactic
import Derived.Laws.NewBlocks
import Derived.Laws.Externs
import Derived.Lib.SliceRun
import Derived.BigRegion
import Derived.RangeFuncNested
import Derived.RangeFuncBound
import Derived.RangeFuncCalls
import Derived.RangeFuncLeaves
import Derived.OwnWalkIn
import Derived.TacticsInMore
import Derived.LoopNIn
import Derived.LoopIn
import Derived.BigRegionIn
import Derived.Test.YtbghjcfepjbppaaPart6
/-
  The book: the document's May (25).
-/
namespace Go.Proofs.Ytbghjcfepjbppaa.Bk
open Go.RowKit
theorem below_drewN {B : Nat} {w w' : World} (h : Below B w w') (n : Nat) : Below B w (w'.drewN n) := ⟨h.os, h.tape, h.output, h.size, h.block⟩
end Go.Proofs.Ytbghjcfepjbppaa.Bk
/-
  THE WALKS OF bits.take at its five instances: a call that reads at the tape's place, goes behind it, or notes an error and stays.
-/
namespace Go.Proofs.Ytbghjcfepjbppaa.Bt
open Go.RowKit


set_option maxHeartbeats 400000 in
theorem takeNum_ok {w : World} {b : Nat} {s : ByteArray} (n : Nat) (k : Nat) (h : TapeAt w b s 0) (hk : k ≤ s.size)
    (hhow : Hid (Calls Try.prog 83 #[.string s] w fun e w' => e = .returned (.tuple #[.int .u64 (n : Int), .int .i64 (k : Int), .int .i64 0]) ∧ Below w.heap.size w w')) :
    Calls Try.prog 82 #[.pointer (some ⟨b, 0, none⟩), .func (.func 83) #[] #[]] w fun r w' => r = .returned (.int .u64 (n : Int)) ∧ w.grownBy w' (some b) ∧ TapeAt w' b (s.extract k s.size) 0 := by
  have g0 := h.c0
  go_enter Try.func82, Try.ntmps82
  go_wp2_with fail
  refine (err_any h).mono ?_
  rintro r w1 ⟨rfl, rfl⟩
  go_wp2_with fail
  refine hhow.out.mono ?_
  rintro r w1 ⟨rfl, hb⟩
  have h' := h.next hb
  have g0' := h'.c0
  have gf := h'.f 0
  go_wp2_with fail
  go_ret
  exact ⟨rfl, grownBy_set hb _ _ _, h'.set0⟩
set_option maxHeartbeats 400000 in
theorem takeNum_bad {w : World} {b : Nat} {s : ByteArray} (n : Nat) (k e : Int) (h : TapeAt w b s 0) (he : e ≠ 0)
    (hhow : Hid (Calls Try.prog 83 #[.string s] w fun r w' => r = .returned (.tuple #[.int .u64 (n : Int), .int .i64 k, .int .i64 e]) ∧ Below w.heap.size w w')) :
    Calls Try.prog 82 #[.pointer (some ⟨b, 0, none⟩), .func (.func 83) #[] #[]] w fun r w' => r = .returned (.int .u64 0) ∧ w.grownBy w' (some b) ∧ TapeAt w' b s e := by
  have g0 := h.c0
  have hEb : (e != 0) = true := by simp [he]
  go_enter Try.func82, Try.ntmps82
  go_wp2_with fail
  refine (err_any h).mono ?_
  rintro r w1 ⟨rfl, rfl⟩
  go_wp2_with fail
  refine hhow.out.mono ?_
  rintro r w1 ⟨rfl, hb⟩
  have h' := h.next hb
  have g1' := h'.c1
  have gf := h'.f 1
  go_wp2_with fail
  go_ret
  exact ⟨rfl, grownBy_set hb _ _ _, h'.set1⟩
set_option maxHeartbeats 400000 in
theorem takeNum_stays {w : World} {b : Nat} {s : ByteArray} {e : Int} (fv : Value) (h : TapeAt w b s e) (he : e ≠ 0) :
    Calls Try.prog 82 #[.pointer (some ⟨b, 0, none⟩), fv] w fun r w' => r = .returned (.int .u64 0) ∧ w = w' := by
  have hEb : (e != 0) = true := by simp [he]
  go_enter Try.func82, Try.ntmps82
  go_wp2_with fail
  refine (err_any h).mono ?_
  rintro r w1 ⟨rfl, rfl⟩
  go_wp2_with fail
  go_ret
  exact ⟨rfl, rfl⟩
set_option maxHeartbeats 400000 in
theorem takeNum_nil (w : World) (fv : Value) :
    Calls Try.prog 82 #[.pointer none, fv] w fun r w' => r = .returned (.int .u64 0) ∧ w = w' := by
  go_enter Try.func82, Try.ntmps82
  go_wp2_with fail
  refine (err_nil _).mono ?_
  rintro r w1 ⟨rfl, rfl⟩
  go_wp2_with fail
  go_ret
  exact ⟨rfl, rfl⟩


end Go.Proofs.Ytbghjcfepjbppaa.Bt
/-
  THE WALKS OF bits.whole, float, flag, AND OF THE TAPE'S FIVE READING CALLS.
-/
namespace Go.Proofs.Ytbghjcfepjbppaa.Bt
open Go.RowKit
/-- a whole number at the front -/
def rdInt (l : List UInt8) : Int × Nat × Int := (unz (rdNum l).1, (rdNum l).2.1, (rdNum l).2.2)
/-- a flag at the front -/
def rdFlag : List UInt8 → Bool × Nat × Int
  | [] => (false, 0, 5)
  | b :: _ => if 1 < b.toNat then (false, 0, 3) else ((b.toNat : Int) == 1, 1, 0)
/-- a real number at the front -/
def rdReal (l : List UInt8) : Nat × Nat × Int :=
  if l.length < 8 then (0, 0, 5) else if codeN (joinN (l.take 8)) ≠ joinN (l.take 8) then (0, 0, 3) else (joinN (l.take 8), 8, 0)
/-- what a call of a tape answers, what is left, and the error: r is what stands at the front -/
def tk {α : Type} (z : α) (s : ByteArray) (e : Int) (r : α × Nat × Int) : α × ByteArray × Int :=
  if e ≠ 0 then (z, s, e) else if r.2.2 ≠ 0 then (z, s, r.2.2) else (r.1, s.extract r.2.1 s.size, 0)
theorem tk_stays {α : Type} (z : α) (s : ByteArray) {e : Int} (r : α × Nat × Int) (he : e ≠ 0) : tk z s e r = (z, s, e) := by unfold tk; rw [if_pos he]
theorem tk_bad {α : Type} (z : α) (s : ByteArray) (v : α) (k : Nat) {e : Int} (he : e ≠ 0) : tk z s 0 (v, k, e) = (z, s, e) := by unfold tk; rw [if_neg (by simp), if_pos he]
theorem tk_ok {α : Type} (z : α) (s : ByteArray) (v : α) (k : Nat) : tk z s 0 (v, k, 0) = (v, s.extract k s.size, 0) := by unfold tk; rw [if_neg (by simp), if_neg (by simp)]
theorem grownBy_refl (w : World) (r : Option Nat) : w.grownBy w r := ⟨rfl, rfl, rfl, Nat.le_refl _, fun _ _ _ => rfl⟩
theorem rdInt_le (s : ByteArray) : (rdInt s.data.toList).2.1 ≤ s.size := by
  have := (rdNum_facts s.data.toList).2.1
  rw [← Lib.size_eq] at this; exact this
theorem rdNum_le (s : ByteArray) : (rdNum s.data.toList).2.1 ≤ s.size := by
  have := (rdNum_facts s.data.toList).2.1
  rw [← Lib.size_eq] at this; exact this
theorem rdReal_le (s : ByteArray) : (rdReal s.data.toList).2.1 ≤ s.size := by
  rw [Lib.size_eq]
  unfold rdReal
  split
  · exact Nat.zero_le _
  · split
    · exact Nat.zero_le _
    · show 8 ≤ _; omega
theorem rdFlag_le (s : ByteArray) : (rdFlag s.data.toList).2.1 ≤ s.size := by
  rw [Lib.size_eq]
  match s.data.toList with
  | [] => exact Nat.zero_le _
  | b :: t =>
    simp only [rdFlag]
    split
    · exact Nat.zero_le _
    · simp

/-- the value that a tape's Num answers -/
def vNum (x : Nat × ByteArray × Int) : Value := .int .u64 (x.1 : Int)
/-- what a tape's Num makes of it -/
def tNum (s : ByteArray) (e : Int) : Nat × ByteArray × Int := tk 0 s e (rdNum s.data.toList)
theorem tapeNum_core {w : World} {b : Nat} {s : ByteArray} {e : Int} (h : TapeAt w b s e) (hs : s.size ≤ 281474976710656) :
    Calls Try.prog 82 #[.pointer (some ⟨b, 0, none⟩), .func (.func 83) #[] #[]] w fun r w' => r = .returned (vNum (tNum s e)) ∧ w.grownBy w' (some b) ∧ TapeAt w' b (tNum s e).2.1 (tNum s e).2.2 := by
  unfold tNum
  by_cases he : e = 0
  · subst he
    have hf := rdNum_le s
    have hnum := number_any s (by omega) w
    rcases hR : rdNum s.data.toList with ⟨v, k, e⟩
    rw [hR] at hf hnum
    by_cases he : e = 0
    · subst he
      rw [tk_ok]
      exact takeNum_ok v k h hf (hnum.mono fun r w' ⟨hr, hw⟩ => ⟨hr, hw ▸ Below.refl _ _⟩)
    · rw [tk_bad _ _ _ _ he]
      exact takeNum_bad v k e h he (hnum.mono fun r w' ⟨hr, hw⟩ => ⟨hr, hw ▸ Below.refl _ _⟩)
  · rw [tk_stays _ _ _ he]
    exact (takeNum_stays _ h he).mono fun r w' ⟨hr, hw⟩ => ⟨hr, hw ▸ grownBy_refl _ _, hw ▸ h⟩
theorem tapeNum_any {w : World} {b : Nat} {s : ByteArray} {e : Int} (h : TapeAt w b s e) (hs : s.size ≤ 281474976710656) :
    Calls Try.prog 60 #[.pointer (some ⟨b, 0, none⟩)] w fun r w' => r = .returned (vNum (tNum s e)) ∧ w.grownBy w' (some b) ∧ TapeAt w' b (tNum s e).2.1 (tNum s e).2.2 := by
  have H := Lib.hid (tapeNum_core h hs)
  go_enter Try.func60, Try.ntmps60
  go_wp2_with fail
  refine H.out.mono ?_
  rintro r w1 ⟨rfl, hb⟩
  go_wp2_with fail
  go_ret
  exact ⟨rfl, hb⟩
theorem tapeNum_nil (w : World) : Calls Try.prog 60 #[.pointer none] w fun r w' => r = .returned (.int .u64 0) ∧ w = w' := by
  go_enter Try.func60, Try.ntmps60
  go_wp2_with fail
  refine (takeNum_nil _ _).mono ?_
  rintro r w1 ⟨rfl, rfl⟩
  go_wp2_with fail
  go_ret
  exact ⟨rfl, rfl⟩

/-- the value that a tape's Int answers -/
def vInt (x : Int × ByteArray × Int) : Value := .int .i64 x.1
/-- what a tape's Int makes of it -/
def tInt (s : ByteArray) (e : Int) : Int × ByteArray × Int := tk 0 s e (rdInt s.data.toList)
/-- the value that a tape's Real answers -/
def vReal (x : Nat × ByteArray × Int) : Value := .float .f64 x.1
/-- what a tape's Real makes of it -/
def tReal (s : ByteArray) (e : Int) : Nat × ByteArray × Int := tk 0 s e (rdReal s.data.toList)
/-- the value that a tape's Flag answers -/
def vFlag (x : Bool × ByteArray × Int) : Value := .bool x.1
/-- what a tape's Flag makes of it -/
def tFlag (s : ByteArray) (e : Int) : Bool × ByteArray × Int := tk false s e (rdFlag s.data.toList)
theorem rdText_le (s : ByteArray) (most : Int) : (rdText s most).2.1 ≤ s.size := by
  have h := rdNum_le s
  rcases hR : rdNum s.data.toList with ⟨N, K, E⟩
  rw [rdText_eq s most hR]
  rw [hR] at h
  split
  · exact Nat.zero_le _
  · split
    · exact Nat.zero_le _
    · split
      · exact Nat.zero_le _
      · simp only at *; omega
def vText (x : ByteArray × ByteArray × Int) : Value := .string x.1
/-- what a tape's Text makes of it -/
def tText (s : ByteArray) (e : Int) (most : Int) : ByteArray × ByteArray × Int := tk ⟨#[]⟩ s e (rdText s most)
end Go.Proofs.Ytbghjcfepjbppaa.Bt
/-
  THE BOOK IN MEMORY: blocks; a row of matches; a book.
-/
namespace Go.Proofs.Ytbghjcfepjbppaa.Bk
open Go.RowKit
theorem ret_b {a b : Bool} (h : a = b) : Ending.returned (.bool a) = .returned (.bool b) := by rw [h]
theorem ret_i {a b : Int} (h : a = b) : Ending.returned (.int .i64 a) = .returned (.int .i64 b) := by rw [h]
/-- a block that is known whole -/
def Blk (w : World) (g : Nat) (t : TypeId) (cs : Array Value) : Prop := w.heap[g]? = some (.cells cs t (0, 0))
section
variable {w w' : World} {g : Nat} {t : TypeId} {cs : Array Value}
theorem Blk.lt (h : Blk w g t cs) : g < w.heap.size := (Array.getElem?_eq_some_iff.1 h).1
theorem Blk.cell (h : Blk w g t cs) (i : Nat) : w.cell? ⟨g, i, none⟩ = cs[i]? := cell_of_row w g i cs t (0, 0) h
theorem Blk.free (h : Blk w g t cs) (i : Nat) : w.frozen? ⟨g, i, none⟩ = false := by unfold Blk at h; simp [World.frozen?, h]
theorem Blk.new (w : World) (t : TypeId) (cs : Array Value) : Blk (w.alloc (.cells cs t)) w.heap.size t cs := heap_alloc_new w _
theorem Blk.below {B : Nat} (h : Blk w g t cs) (hb : Below B w w') (hg : g < B) : Blk w' g t cs := (hb.block g hg).trans h
theorem Blk.next (h : Blk w g t cs) (hb : Below w.heap.size w w') : Blk w' g t cs := h.below hb h.lt
theorem Blk.set (h : Blk w g t cs) (i : Nat) (u : Value) : Blk (w.setCell ⟨g, i, none⟩ u) g t (cs.setIfInBounds i u) := by
  unfold Blk at h ⊢
  simp [World.setCell, Array.getElem?_modify, h]
end
/-- blocks off P are as they were -/
structure Fr (w w' : World) (P : Nat → Prop) : Prop where
  os : w'.os = w.os
  tape : w'.tape = w.tape
  output : w'.output = w.output
  size : w.heap.size ≤ w'.heap.size
  block : ∀ q, q < w.heap.size → ¬ P q → w'.heap[q]? = w.heap[q]?
theorem Fr.refl (w : World) (P : Nat → Prop) : Fr w w P := ⟨rfl, rfl, rfl, Nat.le_refl _, fun _ _ _ => rfl⟩
theorem Fr.trans {a b c : World} {P Q R : Nat → Prop} (h : Fr a b P) (k : Fr b c Q) (hP : ∀ q, q < a.heap.size → P q → R q) (hQ : ∀ q, q < a.heap.size → Q q → R q) : Fr a c R :=
  ⟨k.os.trans h.os, k.tape.trans h.tape, k.output.trans h.output, Nat.le_trans h.size k.size, fun q hq hR => (k.block q (Nat.lt_of_lt_of_le hq h.size) (fun hh => hR (hQ q hq hh))).trans (h.block q hq (fun hh => hR (hP q hq hh)))⟩
theorem Fr.of_grown {w w' : World} {r : Option Nat} (h : w.grownBy w' r) : Fr w w' (fun q => some q = r) := ⟨h.os, h.tape, h.output, h.size, fun q hq hne => h.block q hq hne⟩
theorem Fr.of_below {w w' : World} (h : Below w.heap.size w w') (P : Nat → Prop) : Fr w w' P := ⟨h.os, h.tape, h.output, h.size, fun q hq _ => h.block q hq⟩
theorem Fr.mono {w w' : World} {P Q : Nat → Prop} (h : Fr w w' P) (hPQ : ∀ q, q < w.heap.size → P q → Q q) : Fr w w' Q := ⟨h.os, h.tape, h.output, h.size, fun q hq hn => h.block q hq (fun hh => hn (hPQ q hq hh))⟩
theorem Fr.below {w w' : World} {B : Nat} {P : Nat → Prop} (h : Fr w w' P) (hP : ∀ q, P q → B ≤ q) (hB : B ≤ w.heap.size) : Below B w w' := ⟨h.os, h.tape, h.output, h.size, fun q hq => h.block q (Nat.lt_of_lt_of_le hq hB) (fun hh => by have := hP q hh; omega)⟩
theorem fr_set (w : World) (g i : Nat) (u : Value) : Fr w (w.setCell ⟨g, i, none⟩ u) (fun q => q = g) :=
  ⟨rfl, rfl, rfl, by simp [World.setCell], fun q _ hne => Below.heap_setCell _ _ _ _ hne⟩
theorem fr_drew (w : World) (P : Nat → Prop) : Fr w w.drew P := ⟨rfl, rfl, rfl, Nat.le_refl _, fun _ _ _ => rfl⟩
theorem Fr.on {w w' w2 : World} {P : Nat → Prop} (h : Fr w w' P) (k : Fr w' w2 P) : Fr w w2 P := h.trans k (fun _ _ h => h) (fun _ _ h => h)
theorem Fr.set {w w' : World} {P : Nat → Prop} (h : Fr w w' P) (g i : Nat) (u : Value) (hg : P g ∨ w.heap.size ≤ g) : Fr w (w'.setCell ⟨g, i, none⟩ u) P :=
  h.trans (fr_set w' g i u) (fun _ _ h => h) (fun q hq e => by subst e; rcases hg with h | h; exact h; omega)
theorem Fr.al {w w' : World} {P : Nat → Prop} (h : Fr w w' P) (o : Obj) : Fr w (w'.alloc o) P :=
  h.on (Fr.of_below ((Below.refl w'.heap.size w').alloc (Nat.le_refl _) o) P)
theorem Blk.fr {w w' : World} {g : Nat} {t : TypeId} {cs : Array Value} {P : Nat → Prop} (h : Blk w g t cs) (hf : Fr w w' P) (hP : ¬ P g) : Blk w' g t cs := (hf.block g h.lt hP).trans h
theorem Fr.own {w w' : World} {P : Nat → Prop} {B n size : Nat} {e : TypeId} {v : Value} {xs : List Value} (h : w.ownsRow B e size v n xs) (f : Fr w w' P) (hP : ∀ q, v.ownBlock = some q → ¬ P q) : w'.ownsRow B e size v n xs := by
  refine ⟨h.1, ?_⟩
  rcases h.2 with hn | ⟨g, cap, cur, rfl, hb, hgg, rest⟩
  · exact .inl hn
  · refine .inr ⟨g, cap, cur, rfl, hb, ?_, rest⟩
    rw [f.block g (Array.getElem?_eq_some_iff.1 hgg).1 (hP g rfl)]
    exact hgg

/-- a row of matches in memory: its cells -/
def RowM (w : World) (v : Value) (cs : List Value) : Prop :=
  (v = .slice none 0 0 ∧ cs = []) ∨ ∃ g o cap cur, v = .slice (some ⟨g, o, none⟩) cs.length cap ∧ Blk w g 70 cur ∧ cs.length ≤ cap ∧ cap ≤ maxLen ∧ (cap = cs.length ∨ o = 0) ∧ o + cap ≤ cur.size ∧ (cur.toList.drop o).take cs.length = cs
theorem RowM.fr {w w' : World} {v : Value} {cs : List Value} {P : Nat → Prop} (h : RowM w v cs) (f : Fr w w' P) (hP : ∀ q, v.ownBlock = some q → ¬ P q) : RowM w' v cs := by
  rcases h with h | ⟨g, o, cap, cur, rfl, hb, r⟩
  · exact .inl h
  · exact .inr ⟨g, o, cap, cur, rfl, hb.fr f (hP g rfl), r⟩
theorem RowM.form {w : World} {v : Value} {cs : List Value} (h : RowM w v cs) : ∃ a c, v = .slice a cs.length c ∧ cs.length ≤ c ∧ (c : Int) ≤ 9223372036854775807 := by
  rcases h with ⟨rfl, rfl⟩ | ⟨g, o, cap, cur, rfl, _, h1, h2, _⟩
  · exact ⟨none, 0, rfl, Nat.le_refl _, by omega⟩
  · unfold maxLen at h2; exact ⟨_, _, rfl, h1, by omega⟩
theorem RowM.lt {w : World} {v : Value} {cs : List Value} (h : RowM w v cs) : ∀ q, v.ownBlock = some q → q < w.heap.size := by
  intro q hq
  rcases h with ⟨rfl, rfl⟩ | ⟨g, o, cap, cur, rfl, hb, _⟩
  · simp [Value.ownBlock] at hq
  · have : g = q := by simpa [Value.ownBlock] using hq
    rw [← this]; exact hb.lt
theorem RowM.at_ {w : World} {v : Value} {cs : List Value} (h : RowM w v cs) {k : Nat} (hk : k < cs.length) : ∃ g o c, v = .slice (some ⟨g, o, none⟩) cs.length c ∧ g < w.heap.size ∧ w.cell? ⟨g, o + k, none⟩ = some cs[k] ∧ w.frozen? ⟨g, o + k, none⟩ = false := by
  rcases h with ⟨rfl, rfl⟩ | ⟨g, o, cap, cur, rfl, hb, h1, h2, h3, h4, h5⟩
  · simp at hk
  · refine ⟨g, o, cap, rfl, hb.lt, ?_, hb.free _⟩
    rw [hb.cell, ← Array.getElem?_toList]
    have : ((cur.toList.drop o).take cs.length)[k]? = cs[k]? := by rw [h5]
    rw [List.getElem?_take, if_pos hk, List.getElem?_drop] at this
    rw [this, List.getElem?_eq_getElem hk]
theorem addr_add (g o j : Nat) : (⟨g, o, none⟩ : Addr).add j = ⟨g, o + j, none⟩ := by unfold Addr.add; split <;> simp_all
theorem info37 : (Try.prog.info? 70).map (fun i => (i.zero, i.size, i.bytes)) = some (some (.agg #[.slice none 0 0]), 1, 24) := by kernel_rfl
/-- one match is put behind a row -/
theorem put_run {w : World} {v u : Value} {cs : List Value} {ad : Addr} (ty : TypeId) (hv : RowM w v cs) (hu : w.cell? ad = some u) (h1 : u.oneCell' = true) (hl : cs.length ≤ 1000) :
    ∃ v' w', (Builtin.append_ #[35, 35] ty #[v, .slice (some ad) 1 1]).run Try.prog w = .ok v' w' ∧ RowM w' v' (cs ++ [u]) ∧ Fr w w' (fun q => v.ownBlock = some q) ∧ (∀ q, v'.ownBlock = some q → v.ownBlock = some q ∨ w.heap.size ≤ q) ∧ ∃ a c, v' = .slice (some a) (cs.length + 1) c := by
  obtain ⟨i0, hi, hz0, hz1, hz2⟩ := info_parts info37
  have hn : ∀ j x, ([u] : List Value)[j]? = some x → w.cell? (ad.add j) = some x := by
    intro j x hj
    match j, hj with
    | 0, hj =>
      rw [show ad.add 0 = ad by cases ad; unfold Addr.add; split <;> simp_all]
      rw [hu]; exact hj
  have hn1 : ∀ x ∈ ([u] : List Value), x.oneCell' = true := fun x hx => by rw [List.mem_singleton.1 hx]; exact h1
  have hge := fun n old => grownCap_ge w n old 70
  have hlm := fun n old => grownCap_le_maxLen w n old 70
  have fin : ∀ (old : Nat) (cl : List Value), cl = cs ++ [u] → RowM (w.drew.alloc (.cells (cl.toArray ++ Builtin.zeroCells (Value.agg #[.slice none 0 0]).cells (grownCap w (cs.length + 1) old 70 - (cs.length + 1))) 70)) (.slice (some ⟨w.heap.size, 0, none⟩) (cs.length + 1) (grownCap w (cs.length + 1) old 70)) (cs ++ [u]) := by
    intro old cl hcl
    have hg1 := hge (cs.length + 1) old
    have hg2 := hlm (cs.length + 1) old (by unfold maxLen; omega)
    have hln : (cs ++ [u]).length = cs.length + 1 := by simp
    refine .inr ⟨w.heap.size, 0, grownCap w (cs.length + 1) old 70, _, by rw [hln], Blk.new w.drew 70 _, by rw [hln]; exact hg1, hg2, .inr rfl, ?_, ?_⟩
    · rw [Array.size_append, size_zeroCells, hcl, List.size_toArray, hln, show (Value.agg #[Value.slice none 0 0]).cells.size = 1 from rfl]; omega
    · rw [List.drop_zero, Array.toList_append, hcl, List.toList_toArray, List.take_left]
  have frn : ∀ (cur : Array Value) (P : Nat → Prop), Fr w (w.drew.alloc (.cells cur 70)) P := fun cur P => (fr_drew w P).al _
  rcases hv with ⟨rfl, rfl⟩ | ⟨g, o, cap, cur, rfl, hb, hc1, hc2, hc3, hc4, hc5⟩
  · have hr := run_append_nil (P := Try.prog) w 35 ty 70 i0 _ Try.underlying35 hi hz0 ad 1 1 [u] (by rw [hz1]; rfl) hn (by omega) (by omega) (by rw [hz2]; omega)
    exact ⟨_, _, hr, fin 0 [u] rfl, frn _ _, fun q hq => .inr (by
      have : w.heap.size = q := by simpa [Value.ownBlock] using hq
      omega), _, _, rfl⟩
  · by_cases hroom : cs.length + 1 ≤ cap
    · obtain rfl : o = 0 := by rcases hc3 with h | h <;> omega
      have hr := run_append_room (P := Try.prog) w 35 ty 70 i0 Try.underlying35 hi g cs.length cap cur hb ad 1 1 [u] (by rw [hz1]; rfl) hn hn1 hroom (by rw [hz1]; simp; omega)
      rw [hz1] at hr
      refine ⟨_, _, hr, .inr ⟨g, 0, cap, _, by simp, setRow_heap w g cur _ 70 _ hb, by simpa using hroom, hc2, .inr rfl, ?_, ?_⟩, ⟨rfl, rfl, rfl, by simp, fun k _ hk => setRow_other w g k _ (fun e => hk (by simp [Value.ownBlock, e]))⟩, fun q hq => .inl hq, _, _, rfl⟩
      · simp only [List.size_toArray, List.length_append, List.length_take, List.length_drop, Array.length_toList, List.length_cons, List.length_nil]
        omega
      · rw [List.drop_zero, List.toList_toArray]
        have hcl : cs.length ≤ cur.toList.length := by have := Array.length_toList (xs := cur); omega
        have htl : (cur.toList.take cs.length ++ [u]).length = cs.length + 1 := by rw [List.length_append, List.length_take]; simp; omega
        rw [Nat.mul_one, List.take_append_of_le_length (by rw [htl]; simp), List.take_of_length_le (by rw [htl]; simp)]
        rw [List.drop_zero] at hc5
        rw [hc5]
    · have hr := run_append_grow (P := Try.prog) w 35 ty 70 i0 _ Try.underlying35 hi hz0 ⟨g, o, none⟩ cs.length cap cs (by rw [hz1, Nat.mul_one]) (fun j x hj => by
          rw [addr_add, hb.cell, ← Array.getElem?_toList]
          have hjl : j < cs.length := (List.getElem?_eq_some_iff.1 hj).1
          have : ((cur.toList.drop o).take cs.length)[j]? = cs[j]? := by rw [hc5]
          rw [List.getElem?_take, if_pos hjl, List.getElem?_drop] at this
          rw [this]; exact hj) ad 1 1 [u] (by rw [hz1]; rfl) hn (by omega) (by omega) (by rw [hz2]; exact growslice_fits (by omega) (by omega))
      refine ⟨_, _, hr, ?_, frn _ _, fun q hq => .inr (by
        have : w.heap.size = q := by simpa [Value.ownBlock] using hq
        omega), _, _, rfl⟩
      have := fin cap (cs ++ [u]) rfl
      rw [show (cs ++ [u]).toArray = cs.toArray ++ [u].toArray by simp] at this
      exact this
/-- matches at a row's cells -/
def El (w : World) (Bk : Nat → Prop) (u : Value) (xs : List Int) : Prop := (u = .slice none 0 0 ∧ xs = []) ∨ ∃ g c cur, u = .slice (some ⟨g, 0, none⟩) xs.length c ∧ Blk w g 3 cur ∧ Bk g ∧ cur.toList.take xs.length = xs.map (Value.int .i64)
theorem Blk.ty {w : World} {g : Nat} {t t' : TypeId} {cs cs' : Array Value} (h : Blk w g t cs) (h' : Blk w g t' cs') : t = t' := by
  have := h.symm.trans h'
  simp at this
  exact this.2
theorem El.fr {w w' : World} {Bk P : Nat → Prop} {u : Value} {xs : List Int} (h : El w Bk u xs) (f : Fr w w' P) (hP : ∀ q cur, Bk q → Blk w q 3 cur → ¬ P q) : El w' Bk u xs := by
  rcases h with h | ⟨g, c, cur, e, hb, hB, r⟩
  · exact .inl h
  · exact .inr ⟨g, c, cur, e, hb.fr f (hP g cur hB hb), hB, r⟩
theorem El.mono {w : World} {Bk Bk' : Nat → Prop} {u : Value} {xs : List Int} (h : El w Bk u xs) (hB : ∀ q, Bk q → Bk' q) : El w Bk' u xs := by
  rcases h with h | ⟨g, c, cur, e, hb, hg, r⟩
  · exact .inl h
  · exact .inr ⟨g, c, cur, e, hb, hB g hg, r⟩
theorem El.one {w : World} {Bk : Nat → Prop} {u : Value} {xs : List Int} (h : El w Bk u xs) : u.oneCell' = true := by
  rcases h with ⟨rfl, _⟩ | ⟨g, c, cur, rfl, _⟩ <;> rfl
theorem El.nums {w : World} {Bk : Nat → Prop} {u : Value} {xs : List Int} (h : El w Bk u xs) : ∃ a c, u = .slice a xs.length c ∧ Nums w a xs := by
  rcases h with ⟨rfl, rfl⟩ | ⟨g, c, cur, rfl, hb, _, r⟩
  · exact ⟨none, 0, rfl, fun i hi => by simp at hi⟩
  · refine ⟨_, c, rfl, fun i hi => ⟨g, 0, rfl, hb.lt, ?_⟩⟩
    rw [Nat.zero_add, hb.cell, ← Array.getElem?_toList]
    have : (cur.toList.take xs.length)[i]? = (xs.map (Value.int .i64))[i]? := by rw [r]
    rw [List.getElem?_take, if_pos hi] at this
    rw [this]
    simp [hi]
theorem OwnN.el {w : World} {B : Nat} {v : Value} {xs : List Int} (h : OwnN w B v xs) : El w (fun q => B ≤ q ∧ q < w.heap.size) v xs := by
  rcases h.2 with ⟨e, e2⟩ | ⟨g, cap, cur, e, hb, hg, h1, h2, h3, h4⟩
  · exact .inl ⟨e, List.length_eq_zero_iff.1 e2⟩
  · exact .inr ⟨g, cap, cur, e, hg, ⟨hb, (Array.getElem?_eq_some_iff.1 hg).1⟩, by rw [Nat.mul_one] at h4; exact h4⟩
def Els (w : World) (Bk : Nat → Prop) (cs : List Value) (LL : List (List Int)) : Prop := cs.length = LL.length ∧ ∀ (i : Nat) (h : i < cs.length) (h2 : i < LL.length), El w Bk cs[i] LL[i]
section
variable {w w' : World} {Bk P : Nat → Prop} {cs : List Value} {LL : List (List Int)}
theorem Els.fr (h : Els w Bk cs LL) (f : Fr w w' P) (hP : ∀ q cur, Bk q → Blk w q 3 cur → ¬ P q) : Els w' Bk cs LL := ⟨h.1, fun i a b => (h.2 i a b).fr f hP⟩
theorem Els.mono {Bk' : Nat → Prop} (h : Els w Bk cs LL) (hB : ∀ q, Bk q → Bk' q) : Els w Bk' cs LL := ⟨h.1, fun i a b => (h.2 i a b).mono hB⟩
theorem Els.drop (h : Els w Bk cs LL) (n : Nat) : Els w Bk (cs.drop n) (LL.drop n) := ⟨by simp [h.1], fun i a b => by
  rw [List.getElem_drop, List.getElem_drop]
  exact h.2 (n + i) (by simp at a; omega) (by simp at b; omega)⟩
theorem Els.snoc {u : Value} {xs : List Int} (h : Els w Bk cs LL) (hu : El w Bk u xs) : Els w Bk (cs ++ [u]) (LL ++ [xs]) := ⟨by simp [h.1], fun i a b => by
  have := h.1
  rcases Nat.lt_or_ge i cs.length with hi | hi
  · rw [List.getElem_append_left hi, List.getElem_append_left (by omega)]
    exact h.2 i hi (by omega)
  · rw [List.getElem_append_right hi, List.getElem_append_right (by omega)]
    simpa using hu⟩
theorem Els.nil (w : World) (Bk : Nat → Prop) : Els w Bk [] [] := ⟨rfl, fun i a _ => by simp at a⟩
end
/-- a book in memory, in the blocks Bk -/
def BookAt (w : World) (Bk : Nat → Prop) (t : Nat) (base : Int) (LL : List (List Int)) : Prop :=
  ∃ v cs, Blk w t 124 #[.int .i64 base, v] ∧ RowM w v cs ∧ Els w Bk cs LL ∧ Bk t ∧ (∀ q, v.ownBlock = some q → Bk q) ∧ ∀ q, Bk q → q < w.heap.size
theorem BookAt.fr {w w' : World} {Bk P : Nat → Prop} {t : Nat} {base : Int} {LL : List (List Int)} (h : BookAt w Bk t base LL) (f : Fr w w' P) (hP : ∀ q, Bk q → ¬ P q) : BookAt w' Bk t base LL := by
  obtain ⟨v, cs, k, r, e, ht, hv, hl⟩ := h
  exact ⟨v, cs, k.fr f (hP t ht), r.fr f (fun q hq => hP q (hv q hq)), e.fr f (fun q _ hq _ => hP q hq), ht, hv, fun q hq => Nat.lt_of_lt_of_le (hl q hq) f.size⟩
theorem BookAt.next {w w' : World} {Bk : Nat → Prop} {t : Nat} {base : Int} {LL : List (List Int)} (h : BookAt w Bk t base LL) (hb : Below w.heap.size w w') : BookAt w' Bk t base LL := h.fr (Fr.of_below hb (fun _ => False)) (fun _ _ h => h)
end Go.Proofs.Ytbghjcfepjbppaa.Bk
/-
  The book: copied 27, New 8, Base 22, End 23.
-/
namespace Go.Proofs.Ytbghjcfepjbppaa.Bk
open Go.RowKit
/-- what copied leaves -/
def Cpd (w : World) (xs : List Int) (e : Ending) (w' : World) : Prop := ∃ u, e = .returned (.agg #[u]) ∧ OwnN w' w.heap.size u xs ∧ Below w.heap.size w w'
theorem OwnN.drop {w w' : World} {B B' : Nat} {u : Value} {xs : List Int} (h : OwnN w B u xs) (hB : B' ≤ B) : OwnN w B' u xs := by
  refine ⟨h.1, ?_⟩
  rcases h.2 with hn | ⟨g, cap, cur, e, hb, r⟩
  · exact .inl hn
  · exact .inr ⟨g, cap, cur, e, Nat.le_trans hB hb, r⟩
theorem OwnN.fr {w w' : World} {B : Nat} {u : Value} {xs : List Int} {P : Nat → Prop} (h : OwnN w B u xs) (f : Fr w w' P) (hP : ∀ q, u.ownBlock = some q → ¬ P q) : OwnN w' B u xs := Fr.own h f hP
theorem OwnN.ge {w : World} {B : Nat} {u : Value} {xs : List Int} (h : OwnN w B u xs) : ∀ q, u.ownBlock = some q → B ≤ q ∧ q < w.heap.size := fun q hq => World.ownsRow.lt h q hq
set_option maxHeartbeats 2000000 in
set_option maxRecDepth 100000 in
theorem copied_any {w : World} {a : Option Addr} {xs : List Int} (c : Nat) (h : Nums w a xs) (hl : xs.length ≤ 1000) : Calls Try.prog 65 #[.agg #[.slice a xs.length c]] w (Cpd w xs) := by
  have KA0 := Blk.new w 70 #[.slice a xs.length c]
  have B0 := (Below.refl w.heap.size w).alloc (Nat.le_refl _) (.cells #[.slice a xs.length c] 70)
  have KZ1 := Blk.new (w.alloc (.cells #[.slice a xs.length c] 70)) 70 #[.slice none 0 0]
  have B1 := B0.alloc (by simp) (.cells #[.slice none 0 0] 70)
  have hz : (w.alloc (.cells #[.slice a xs.length c] 70)).heap.size = w.heap.size + 1 := by simp
  rw [hz] at KZ1
  have HZ := Lib.hid KZ1
  have HB := Lib.hid B1
  have HC := Lib.hid (clone_any c (h.next (B1.mono (Nat.le_refl _))) hl)
  clear KA0 B0 KZ1 B1 hz h
  generalize hn : xs.length = n at *
  clear hn
  have HF : Hid (∀ e w', Cpd w xs e w' ↔ Cpd w xs e w') := Lib.hid (fun _ _ => Iff.rfl)
  go_enter Try.func65, Try.ntmps65
  go_wp2_with fail
  refine HC.out.mono ?_
  rintro e w3 ⟨u, rfl, ho, b3⟩
  have KZ := HZ.out.below b3 HZ.out.lt
  have B3 := Lib.hid (HB.out.trans (b3.mono HB.out.size))
  have hs : w.heap.size + 2 ≤ ((w.alloc (.cells #[.slice a n c] 70)).alloc (.cells #[.slice none 0 0] 70)).heap.size := by simp
  have OU := Lib.hid (ho.drop (w' := w) hs)
  obtain ⟨a', c', rfl, -⟩ := ho.nums
  clear b3 HZ HB ho hs HC
  have PZ := Lib.hid KZ
  have z0 : w3.cell? ⟨w.heap.size + 1, 0, none⟩ = some (.slice none 0 0) := KZ.cell 0
  have g0 : w3.frozen? ⟨w.heap.size + 1, 0, none⟩ = false := KZ.free 0
  clear KZ
  generalize xs.length = m at *
  go_wp2_with fail
  have KE := PZ.out.set 0 (.slice a' m c')
  have BE := B3.out.setCell (p := ⟨w.heap.size + 1, 0, none⟩) (Nat.le_succ _) (.slice a' m c')
  have OE := (OU.out.fr (fr_set w3 (w.heap.size + 1) 0 (.slice a' m c')) (fun q hq e => by have := (OU.out.ge q hq).1; omega)).drop (w' := w) (B' := w.heap.size) (by omega)
  generalize (w3.setCell _ _) = w5 at *
  have y0 : w5.cell? ⟨w.heap.size + 1, 0, none⟩ = some (.slice a' m c') := KE.cell 0
  refine bodyPost_ret (by simp [results, Try.results65, go_sem, y0]; try rfl) rfl ?_
  exact ⟨_, rfl, OE, BE⟩
theorem new_any (w : World) : Calls Try.prog 28 #[] w fun e w' => e = .returned (.pointer (some ⟨w.heap.size, 0, none⟩)) ∧ BookAt w' (fun q => q = w.heap.size) w.heap.size 0 [] ∧ Below w.heap.size w w' := by
  have K := Lib.hid (Blk.new w 124 #[.int .i64 0, .slice none 0 0])
  go_enter Try.func28, Try.ntmps28
  go_wp2_with fail
  go_ret
  exact ⟨rfl, ⟨_, [], K.out, .inl ⟨rfl, rfl⟩, Els.nil _ _, rfl, fun q hq => by simp [Value.ownBlock] at hq, fun q hq => by rw [hq]; simp⟩, (Below.refl _ w).alloc (Nat.le_refl _) _⟩
theorem end_nil (w : World) : Calls Try.prog 64 #[.pointer none] w fun e w' => e = .returned (.int .i64 0) ∧ w = w' := by
  go_enter Try.func64, Try.ntmps64
  go_wp2_with fail
  go_ret
  exact ⟨rfl, rfl⟩
theorem end_any {w : World} {Bk : Nat → Prop} {t : Nat} {base : Int} {LL : List (List Int)} (h : BookAt w Bk t base LL) (h0 : 0 ≤ base) (h1 : base ≤ 549755813888) (h2 : LL.length ≤ 1000) : Calls Try.prog 64 #[.pointer (some ⟨t, 0, none⟩)] w fun e w' => e = .returned (.int .i64 (base + LL.length)) ∧ Below w.heap.size w w' := by
  obtain ⟨v, cs, k, r, e, -⟩ := h
  have c0 : w.cell? ⟨t, 0, none⟩ = some (.int .i64 base) := k.cell 0
  have c1 : w.cell? ⟨t, 1, none⟩ = some v := k.cell 1
  obtain ⟨a, c, rfl, -, -⟩ := r.form
  have hl := e.1
  rw [← hl] at h2 ⊢
  clear e hl k
  generalize cs.length = n at *
  have h2I : (n : Int) ≤ 1000 := by omega
  have W0 : ¬ (9223372036854775807 < base + n) := by omega
  have BW := Lib.hid (Below.refl w.heap.size w)
  go_enter Try.func64, Try.ntmps64
  go_wp2_with fail
  go_quiet (fail)
  go_wp2_with fail
  go_ret
  exact ⟨rfl, below_drewN BW.out _⟩
end Go.Proofs.Ytbghjcfepjbppaa.Bk
/-
  The book: cut 28, Forget 17.
-/
namespace Go.Proofs.Ytbghjcfepjbppaa.Bk
open Go.RowKit
theorem underlying40' : Try.prog.underlying 35 = some (.slice 70) := Try.underlying35
theorem run_clear1 (w : World) (ty : TypeId) (g o n c : Nat) (cur : Array Value) (t : TypeId) (hg : Blk w g t cur) (hn : 0 < n) (hfit : o + n ≤ cur.size) :
    (Builtin.clear_ #[35] ty #[.slice (some ⟨g, o, none⟩) n c]).run Try.prog w =
      .ok (.tuple #[]) (w.setRow g (cur.toList.take o ++ (Builtin.zeroCells (Value.agg #[.slice none 0 0]).cells n).toList ++ cur.toList.drop (o + n)).toArray) := by
  obtain ⟨i0, hi, hz0, hz1, hz2⟩ := info_parts info37
  have hl : (Builtin.zeroCells (Value.agg #[.slice none 0 0]).cells n).toList.length = n := by
    rw [Array.length_toList, size_zeroCells, show (Value.agg #[.slice none 0 0]).cells.size = 1 from rfl, Nat.mul_one]
  have h1 : ∀ v ∈ (Builtin.zeroCells (Value.agg #[.slice none 0 0]).cells n).toList, v.oneCell' = true := by
    intro v hv
    unfold Builtin.zeroCells at hv
    simp only [Array.toList_map, List.mem_map] at hv
    obtain ⟨i, _, rfl⟩ := hv
    have e : (Value.agg #[.slice none 0 0]).cells = #[.slice none 0 0] := rfl
    rw [e, show (#[Value.slice none 0 0] : Array Value).size = 1 from rfl, Nat.mod_one]
    rfl
  have hst := run_storeCells_at Try.prog g o t _ 0 cur w hg (by rw [hl]; simpa using hfit) h1
  rw [hl] at hst
  obtain ⟨m, rfl⟩ : ∃ m, n = m + 1 := ⟨n - 1, by omega⟩
  obtain ⟨Z, hZ⟩ : ∃ Z, Z = Builtin.zeroCells (Value.agg #[.slice none 0 0]).cells (m + 1) := ⟨_, rfl⟩
  rw [← hZ] at hst ⊢
  have hzc : ∀ w, (zeroValue 70).run Try.prog w = .ok (.agg #[.slice none 0 0]) w := fun w => by simp [zeroValue, typeInfo, hi, hz0]
  simp [Builtin.clear_, run_underlying Try.underlying35, hzc]
  rw [← hZ, hst]
  simp
/-- what a call that changes a book's row leaves -/
def Chd (w : World) (Bk : Nat → Prop) (t : Nat) (base : Int) (LL : List (List Int)) (w' : World) : Prop := BookAt w' Bk t base LL ∧ Fr w w' Bk
set_option maxHeartbeats 4000000 in
set_option maxRecDepth 100000 in
theorem cut_any {w : World} {Bk : Nat → Prop} {t : Nat} {base n : Int} {LL : List (List Int)} (h : BookAt w Bk t base LL) (h0 : 0 ≤ base) (hb : base ≤ 549755813888) (hl : LL.length ≤ 1000) (hn : n ≤ LL.length) (hm : -1099511627776 ≤ n) :
    Calls Try.prog 66 #[.pointer (some ⟨t, 0, none⟩), .int .i64 n] w fun e w' => (∃ r, e = .returned r) ∧ Chd w Bk t (if n < 1 then base else base + n) (LL.drop n.toNat) w' := by
  by_cases h1 : n < 1
  · have E : n.toNat = 0 := by omega
    have h1B := decide_eq_true h1
    rw [if_pos h1, E, List.drop_zero]
    have FIN := Lib.hid (show Chd w Bk t base LL w from ⟨h, Fr.refl _ _⟩)
    clear h E
    go_enter Try.func66, Try.ntmps66
    go_wp2_with fail
    (try simp only [Exit.inBlock, Exit.then])
    refine bodyPost_ret (results_none rfl _ _ _) rfl ?_
    exact ⟨⟨_, rfl⟩, FIN.out⟩
  obtain ⟨k, rfl⟩ : ∃ k : Nat, n = k := ⟨n.toNat, by omega⟩
  have hk1 : 1 ≤ k := by omega
  rw [if_neg h1, Int.toNat_natCast]
  obtain ⟨v, cs, kt, r, e, ht, hv, hlt⟩ := h
  have hcl := e.1
  have hkc : k ≤ cs.length := by omega
  rcases r with ⟨rfl, rfl⟩ | ⟨g, o, cap, cur, rfl, hg, hc1, hc2, hc3, hc4, hc5⟩
  · simp at hkc; omega
  have hne : g ≠ t := fun e2 => by
    subst e2
    exact absurd (kt.ty hg) (by decide)
  obtain ⟨R, hR⟩ : ∃ R : Array Value, R = (cur.toList.take o ++ (Builtin.zeroCells (Value.agg #[.slice none 0 0]).cells k).toList ++ cur.toList.drop (o + k)).toArray := ⟨_, rfl⟩
  have hzl : (Builtin.zeroCells (Value.agg #[.slice none 0 0]).cells k).toList.length = k := by
    rw [Array.length_toList, size_zeroCells, show (Value.agg #[.slice none 0 0]).cells.size = 1 from rfl, Nat.mul_one]
  have hRs : R.size = cur.size := by
    rw [hR, List.size_toArray, List.length_append, List.length_append, List.length_take, List.length_drop, hzl, Array.length_toList]; omega
  have hRd : R.toList.drop (o + k) = cur.toList.drop (o + k) := by
    rw [hR, List.toList_toArray]
    have hA : (cur.toList.take o ++ (Builtin.zeroCells (Value.agg #[.slice none 0 0]).cells k).toList).length = o + k := by
      rw [List.length_append, List.length_take, hzl, Array.length_toList]; omega
    rw [← hA, List.drop_left]
  have CLR := Lib.hid (fun ty c => run_clear1 w ty g o k c cur 70 hg (by omega) (by omega))
  rw [← hR] at CLR
  have K2 : Blk (w.setRow g R) g 70 R := setRow_heap w g cur R 70 (0, 0) hg
  have T2 : Blk (w.setRow g R) t 124 #[.int .i64 base, .slice (some ⟨g, o, none⟩) cs.length cap] := (setRow_other w g t R (fun e => hne e.symm)).trans kt
  have F2 : Fr w (w.setRow g R) (fun q => q = g) := ⟨rfl, rfl, rfl, by simp, fun q _ hq => setRow_other w g q R hq⟩
  have hgB : Bk g := hv g rfl
  have FIN : Hid (∀ w5 o', (o' = o + k ∨ k = cs.length) → Blk w5 t 124 #[.int .i64 (base + k), .slice (some ⟨g, o', none⟩) (cs.length - k) (cs.length - k)] → o' + (cs.length - k) ≤ cur.size → Fr (w.setRow g R) w5 (fun q => q = t) → Chd w Bk t (base + k) (LL.drop k) w5) := Lib.hid fun w5 o' ho k5 ho2 f5 => by
    have f5' : Fr w w5 (fun q => q = g ∨ q = t) := F2.trans f5 (fun _ _ h => .inl h) (fun _ _ h => .inr h)
    have hel : ∀ q, Bk q → q < w5.heap.size := fun q hq => Nat.lt_of_lt_of_le (hlt q hq) f5'.size
    refine ⟨⟨_, cs.drop k, k5, .inr ⟨g, o', cs.length - k, R, by rw [List.length_drop], K2.fr f5 (fun e => hne e), by rw [List.length_drop]; exact Nat.le_refl _, by omega, .inl (by rw [List.length_drop]), by omega, ?_⟩, ?_, ht, fun q hq => by
      have : g = q := by simpa [Value.ownBlock] using hq
      rw [← this]; exact hgB, hel⟩, f5'.mono (fun q _ hq => by rcases hq with rfl | rfl; exact hgB; exact ht)⟩
    · rw [List.length_drop]
      rcases ho with rfl | rfl
      · rw [hRd]
        have := congrArg (List.drop k) hc5
        rw [List.drop_take, List.drop_drop] at this
        exact this
      · rw [Nat.sub_self, List.take_zero, List.drop_of_length_le (Nat.le_refl _)]
    · refine (e.drop k).fr f5' (fun q cu _ hq hh => ?_)
      rcases hh with rfl | rfl
      · exact absurd (hq.ty hg) (by decide)
      · exact absurd (hq.ty kt) (by decide)
  have c1w : w.cell? ⟨t, 1, none⟩ = some (.slice (some ⟨g, o, none⟩) cs.length cap) := kt.cell 1
  have hocs : o + cs.length ≤ cur.size := by omega
  have hocap : Hid (o + cs.length ≤ cur.size) := Lib.hid hocs
  have hcapI : (cap : Int) ≤ 9223372036854775807 := by unfold maxLen at hc2; omega
  have hclI : cs.length ≤ 1000 := by omega
  obtain ⟨W2, hW2⟩ : ∃ W2, W2 = w.setRow g R := ⟨_, rfl⟩
  rw [← hW2] at CLR K2 T2 F2 FIN
  have TT := Lib.hid T2
  clear hW2 hRd hRs hzl hR K2 F2 hlt hv e kt hg hc3 hc4 hc5 hne hocs T2 hc2 hcl
  generalize LL.drop k = LD at *
  generalize LL.length = nn at *
  generalize cs.length = m at *
  have hkm : (k : Int) ≤ (m : Int) := by omega
  have hkc2 : (k : Int) ≤ (cap : Int) := by omega
  have hmc2 : (m : Int) ≤ (cap : Int) := by omega
  have hk1I : ¬ (k : Int) < 1 := by omega
  have hk1B := decide_eq_false hk1I
  have hbk : IntKind.i64.wrap (base + k) = base + k := by rw [IntKind.wrap_i64]; omega
  have hbk2 : ¬ (9223372036854775807 < base + k) := by omega
  have hkp : k ≠ 0 := by omega
  have hcl := CLR.out
  clear CLR
  have c0 : W2.cell? ⟨t, 0, none⟩ = some (.int .i64 base) := TT.out.cell 0
  have c1 : W2.cell? ⟨t, 1, none⟩ = some (.slice (some ⟨g, o, none⟩) m cap) := TT.out.cell 1
  have f0 : W2.frozen? ⟨t, 0, none⟩ = false := TT.out.free 0
  have f1 : W2.frozen? ⟨t, 1, none⟩ = false := TT.out.free 1
  have RET : Hid (∀ o' w5, (o' = o + k ∨ k = m) → o' + (m - k) ≤ cur.size → w5 = ((W2.setCell ⟨t, 1, none⟩ (.slice (some ⟨g, o', none⟩) (m - k) (m - k))).setCell ⟨t, 0, none⟩ (.int .i64 (base + k))).drew → Chd w Bk t (base + k) LD w5) := Lib.hid fun o' w5 ho ho2 hw => by
    subst hw
    exact FIN.out _ o' ho ((TT.out.set 1 (.slice (some ⟨g, o', none⟩) (m - k) (m - k))).set 0 (.int .i64 (base + k))) ho2 ((((Fr.refl W2 (fun q => q = t)).set t 1 _ (.inl rfl)).set t 0 _ (.inl rfl)).on (fr_drew _ _))
  clear FIN
  by_cases hkm2 : k = m
  · subst hkm2
    go_enter Try.func66, Try.ntmps66
    go_wp2_with fail
    go_region
    all_goals go_wp2_with fail
    all_goals go_end0
    all_goals exact ⟨⟨_, rfl⟩, RET.out o _ (.inr trivial) (by have := hocap.out; omega) (by rw [Nat.sub_self])⟩
  · have hkl : k < m := by omega
    have hklI : (k : Int) < (m : Int) := by omega
    have hne1 : ¬ (m = k) := by omega
    have hne2 : ¬ (m ≤ k) := by omega
    go_enter Try.func66, Try.ntmps66
    go_wp2_with fail
    go_region
    all_goals go_wp2_with fail
    all_goals go_end0
    all_goals exact ⟨⟨_, rfl⟩, RET.out (o + k) _ (.inl rfl) (by have := hocap.out; omega) rfl⟩
/-- what Forget answers, and what is left -/
def fgE (base : Int) (LL : List (List Int)) (b : Int) : Int := if b < 0 ∨ base + LL.length < b then 1 else 0
def fgS (base : Int) (LL : List (List Int)) (b : Int) : Int × List (List Int) := if b < 0 ∨ base + LL.length < b ∨ b ≤ base then (base, LL) else (b, LL.drop (b - base).toNat)
/-- a book's numbers -/
structure BOk (base : Int) (LL : List (List Int)) : Prop where
  b0 : 0 ≤ base
  b1 : base + LL.length ≤ 549755813888
  n : LL.length ≤ 64
theorem forget_nil (b : Int) (w : World) : Calls Try.prog 33 #[.pointer none, .int .i64 b] w fun e w' => e = .returned (.int .i64 1) ∧ w = w' := by
  go_enter Try.func33, Try.ntmps33
  go_wp2_with fail
  go_ret
  exact ⟨rfl, rfl⟩
def Fgt (w : World) (Bk : Nat → Prop) (t : Nat) (base : Int) (LL : List (List Int)) (b : Int) (e : Ending) (w' : World) : Prop := e = .returned (.int .i64 (fgE base LL b)) ∧ Chd w Bk t (fgS base LL b).1 (fgS base LL b).2 w'
set_option maxHeartbeats 2000000 in
set_option maxRecDepth 100000 in
theorem forget_any {w : World} {Bk : Nat → Prop} {t : Nat} {base : Int} {LL : List (List Int)} (b : Int) (h : BookAt w Bk t base LL) (ok : BOk base LL) : Calls Try.prog 33 #[.pointer (some ⟨t, 0, none⟩), .int .i64 b] w (Fgt w Bk t base LL b) := by
  have o0 := ok.b0
  have o1 := ok.b1
  have o2 := ok.n
  have SELF := Lib.hid (fun w' (bb : Below w.heap.size w w') => show Chd w Bk t base LL w' from ⟨h.next bb, Fr.of_below bb _⟩)
  have HE := Lib.hid (end_any h o0 (by omega) (by omega))
  by_cases h1 : b < 0
  · have FIN : Hid (∀ w', Below w.heap.size w w' → Fgt w Bk t base LL b (.returned (.int .i64 1)) w') := Lib.hid fun w' bb => by
      unfold Fgt fgE fgS
      rw [if_pos (.inl h1), if_pos (.inl h1)]
      exact ⟨rfl, SELF.out w' bb⟩
    have h1B := decide_eq_true h1
    clear SELF h ok HE
    generalize Fgt w Bk t base LL b = Q at *
    go_enter Try.func33, Try.ntmps33
    go_wp2_with fail
    exact FIN.out _ (Below.refl _ _)
  have h1B := decide_eq_false h1
  by_cases h2 : base + LL.length < b
  · have FIN : Hid (∀ w', Below w.heap.size w w' → Fgt w Bk t base LL b (.returned (.int .i64 1)) w') := Lib.hid fun w' bb => by
      unfold Fgt fgE fgS
      rw [if_pos (.inr h2), if_pos (.inr (.inl h2))]
      exact ⟨rfl, SELF.out w' bb⟩
    clear SELF h ok
    generalize Fgt w Bk t base LL b = Q at *
    generalize base + (LL.length : Int) = z at *
    have h2B := decide_eq_true h2
    go_enter Try.func33, Try.ntmps33
    go_wp2_with (refine HE.out.mono ?_; rintro e w1 ⟨rfl, b1⟩)
    exact FIN.out _ b1
  have FIN : Hid (∀ w1 w', Below w.heap.size w w1 → Chd w1 Bk t (if b - base < 1 then base else base + (b - base)) (LL.drop (b - base).toNat) w' → Fgt w Bk t base LL b (.returned (.int .i64 0)) w') := Lib.hid fun w1 w' bb hc => by
    unfold Fgt fgE fgS
    rw [if_neg (by omega)]
    refine ⟨rfl, ?_⟩
    by_cases h3 : b ≤ base
    · rw [if_pos (.inr (.inr h3))]
      rw [if_pos (by omega), show (b - base).toNat = 0 by omega, List.drop_zero] at hc
      exact ⟨hc.1, (Fr.of_below bb Bk).on hc.2⟩
    · rw [if_neg (by omega)]
      rw [if_neg (by omega), show base + (b - base) = b by omega] at hc
      exact ⟨hc.1, (Fr.of_below bb Bk).on hc.2⟩
  have HC := Lib.hid (fun w1 (bb : Below w.heap.size w w1) => cut_any (n := b - base) (h.next bb) o0 (by omega) (by omega) (by omega) (by omega))
  obtain ⟨v, cs, k, -⟩ := h
  have K := Lib.hid k
  clear SELF k ok
  have hw : ¬ (b - base < -9223372036854775808) := by omega
  have hw2 : ¬ (9223372036854775807 < b - base) := by omega
  have hwr : IntKind.i64.wrap (b - base) = b - base := by rw [IntKind.wrap_i64]; omega
  generalize Fgt w Bk t base LL b = Q at *
  generalize hz : base + (LL.length : Int) = z at *
  clear hz
  have h2B := decide_eq_false h2
  have c0 : w.cell? ⟨t, 0, none⟩ = some (.int .i64 base) := K.out.cell 0
  go_enter Try.func33, Try.ntmps33
  go_wp2_with (first
    | (go_at_call 64; refine HE.out.mono ?_; rintro e w1 ⟨rfl, b1⟩; have B1 := Lib.hid b1; have c1 : w1.cell? ⟨t, 0, none⟩ = some (.int .i64 base) := (K.out.next b1).cell 0; clear b1)
    | (go_at_call 66; refine (HC.out w1 B1.out).mono ?_; rintro e w2 ⟨⟨r, rfl⟩, hc⟩; have HCC := Lib.hid hc; clear hc))
  exact FIN.out _ _ B1.out HCC.out
end Go.Proofs.Ytbghjcfepjbppaa.Bk
/-
  A range over a function whose rounds all go on, and are told what they are handed: a law of my own over the kit's.
-/
namespace Go.Proofs.Ytbghjcfepjbppaa.Bk
open Go.RowKit
/-- no cells lie there -/
def NC (A : World) (l : Nat) : Prop := ∀ c t z, A.heap[l]? ≠ some (.cells c t z)
theorem fr_putObj (W : World) (l : Nat) (o : Obj) : Fr W (W.putObj l o) (fun q => q = l) := ⟨rfl, rfl, rfl, by simp, fun q _ hq => World.putObj_heap_other hq⟩
theorem Blk.nc {w : World} {g l : Nat} {t : TypeId} {cs : Array Value} (h : Blk w g t cs) (hn : NC w l) : g ≠ l := fun e => by subst e; exact hn _ _ _ h
theorem keeps_below {w w' : World} (h : Below w.heap.size w w') : KeepsOthers w w' := ⟨h.size, fun k o hk _ => (h.block k (Array.getElem?_eq_some_iff.1 hk).1).trans hk⟩
theorem keeps_fr {w w' : World} {P : Nat → Prop} (h : Fr w w' P) (hc : ∀ q o, P q → w.heap[q]? = some o → o.isCells = true) : KeepsOthers w w' := ⟨h.size, fun k o hk ho => by
  refine (h.block k (Array.getElem?_eq_some_iff.1 hk).1 (fun hp => ?_)).trans hk
  rw [hc k o hp hk] at ho
  exact absurd ho (by decide)⟩
/-- what an iterator gives, each round going on: X: what is known of what is handed over; Fb: the old blocks that the body may turn -/
def Gives {α : Type} (P : Program) (m gf : Nat) (lb : Array Value) (enc : α → Value) (X : α → World → Prop) (G S : List α → Prop) (Fb : Nat → Prop) (w : World) : Prop :=
  ∀ (l : Nat) (J : List α → World → Prop) (W : World), Below w.heap.size w W → (∀ s A B, J s A → Below A.heap.size A B → J s B) →
    (∀ pre x W1, J pre W1 → X x W1 → G (pre ++ [x]) → YieldAt Fence.wide (m - 1) P l #[enc x] W1 fun e W' => e = .returned (.bool true) ∧ J (pre ++ [x]) W' ∧ Fr W1 W' (fun q => Fb q ∨ w.heap.size ≤ q)) →
    J [] W → CallsIn Fence.wide m P gf (#[.func (.yield l) #[] #[]] ++ lb) W fun e W' => (∃ v, e = .returned v) ∧ ∃ xs, S xs ∧ J xs W'
/-- how a round's body must be left -/
def goesOn {α : Type} (I : List α → World → Prop) (Fb : Nat → Prop) (n : Nat) (xs : List α) (W W2 : World) : Exit → Act → World → Prop
  | .normal, _, W3 => KeepsOthers W2 W3 ∧ Fr W W3 (fun q => Fb q ∨ n ≤ q) ∧ I xs W3
  | _, _, _ => False
theorem range_law {P : Program} {α : Type} {g : Operand} {ps : Array Tmp} {assign body : Code} {Q : Exit → Act → World → Prop} {a : Act} {w : World} {m gf : Nat} {lb : Array Value}
    {enc : α → Value} {X : α → World → Prop} {G S : List α → Prop} {Fb : Nat → Prop}
    (h1 : 1 ≤ m) (hg : a.eval g = .func (.func gf) #[] lb) (eg : ∀ args w, (callFunc gf args).run P w = .ok (.enter gf args) w)
    (hseq : Gives P (m - 1) gf lb enc X G S Fb w) (hps : ps.size = 1) (I : List α → World → Prop)
    (hI : ∀ s A B, I s A → NC A (w.heap.size + 1) → Fr A B (fun q => q = w.heap.size + 1) → I s B) (h0 : I [] w)
    (hround : ∀ (l : Nat) (pre : List α) (x : α) (W : World), I pre W → X x W → G (pre ++ [x]) → w.heap.size + 1 < W.heap.size → NC W (w.heap.size + 1) →
      assign.wpIn (Fence.wide.inRound l) (m - 1 - 1) P (Exit.then (fun a₁ W1 => KeepsOthers W W1 ∧ ∀ W2, Fr W1 W2 (fun q => q = w.heap.size + 1) → NC W1 (w.heap.size + 1) → NC W2 (w.heap.size + 1) →
        body.wpIn (Fence.wide.inRound l) (m - 1 - 1) P (goesOn I Fb w.heap.size (pre ++ [x]) W W2) a₁ W2) (fun _ _ _ => False))
        { tmps := (ps.zip #[enc x]).foldl (fun t (p, v) => t.setIfInBounds p v) a.tmps, defers := [] } W)
    (hdone : ∀ (xs : List α) (W : World), S xs → I xs W → W.heap[w.heap.size]? = some (.deferred (some [])) → Q .normal { a with defers := { target := .collected w.heap.size, args := #[] } :: a.defers } W) :
    (Code.rangeFunc g ps assign body).wpIn Fence.wide m P Q a w := by
  refine wpIn_rangeFunc fun fn hfn => ?_
  obtain ⟨rc, hrc⟩ : ∃ rc : LoopState → Loop, rc = fun st => { state := st, pending := none, fn, tmps := a.tmps, params := ps, assign, body, defers := w.heap.size } := ⟨_, rfl⟩
  obtain ⟨V, hV⟩ : ∃ V, V = (w.alloc (.deferred (some []))).alloc (.loop (rc .ready)) := ⟨_, rfl⟩
  have hsz : (w.alloc (.deferred (some []))).heap.size = w.heap.size + 1 := by simp
  have b1 : Below w.heap.size w V := by rw [hV]; exact ((Below.refl _ w).alloc (Nat.le_refl _) _).alloc (by simp) _
  have vl : V.heap[w.heap.size + 1]? = some (.loop (rc .ready)) := by
    rw [hV, ← hsz]; exact World.alloc_heap_new _ _
  have vd : V.heap[w.heap.size]? = some (.deferred (some [])) := by
    rw [hV]; exact (Below.heap_alloc _ _ _ (by simp)).trans (World.alloc_heap_new w _)
  have nc0 : NC w (w.heap.size + 1) := fun c t z e => by
    have := (Array.getElem?_eq_some_iff.1 e).1
    omega
  have ncl : ∀ (A : World) (st : Loop), A.heap[w.heap.size + 1]? = some (.loop st) → NC A (w.heap.size + 1) := fun A st e c t z e2 => by
    rw [e] at e2; cases e2
  refine ⟨w.heap.size + 1, [{ target := .collected w.heap.size, args := #[] }], V, { target := .fn (.func gf) lb, args := #[.func (.yield (w.heap.size + 1)) #[] #[]] }, V, gf,
    #[.func (.yield (w.heap.size + 1)) #[] #[]] ++ lb, V, ?_, ?_, fun _ _ => trivial, ?_, fun _ => h1, ?_⟩
  · rw [hV, hrc]; exact run_enterLoop_outer _ _ _ _ _
  · simp only [resolve, hg]
    simp [go_sem]
  · simp [invoke, go_sem, eg]
  refine (hseq (w.heap.size + 1) (fun s A => I s A ∧ A.heap[w.heap.size + 1]? = some (.loop (rc .ready)) ∧ A.heap[w.heap.size]? = some (.deferred (some []))) V b1 ?_ ?_ ⟨hI _ _ _ h0 nc0 (Fr.of_below b1 _), vl, vd⟩).mono ?_
  · rintro s A B ⟨i, la, da⟩ hb
    exact ⟨hI _ _ _ i (ncl A _ la) (Fr.of_below hb _), (hb.block _ (Array.getElem?_eq_some_iff.1 la).1).trans la, (hb.block _ (Array.getElem?_eq_some_iff.1 da).1).trans da⟩
  · rintro pre x A ⟨i, la, da⟩ hx hG
    have hla : w.heap.size + 1 < A.heap.size := (Array.getElem?_eq_some_iff.1 la).1
    have hy := run_yield (P := P) (args := #[enc x]) la (by rw [hrc]; simp [hps])
    rw [hrc] at hy
    refine ⟨fn, _, assign, body, hy, roundIn_of_wpIn hfn (wpIn_mono (hround (w.heap.size + 1) pre x A i hx hG hla (ncl A _ la)) ?_)⟩
    rintro e a1 W1 hp
    cases e with
    | normal =>
      obtain ⟨k1, hb⟩ := hp
      have l1 := k1.same _ _ la rfl
      have d1 := k1.same _ _ da rfl
      refine ⟨_, run_beginRound l1 (by rw [hrc]), ?_⟩
      obtain ⟨W2, hW2⟩ : ∃ W2, W2 = W1.putObj (w.heap.size + 1) (.loop { rc .ready with state := .busy }) := ⟨_, rfl⟩
      have hl1 : w.heap.size + 1 < W1.heap.size := (Array.getElem?_eq_some_iff.1 l1).1
      have l2 : W2.heap[w.heap.size + 1]? = some (.loop { rc .ready with state := .busy }) := by rw [hW2]; exact World.putObj_heap_same hl1
      have d2 : W2.heap[w.heap.size]? = some (.deferred (some [])) := by rw [hW2]; exact (World.putObj_heap_other (by omega)).trans d1
      rw [← hW2]
      refine wpIn_mono (hb W2 (by rw [hW2]; exact fr_putObj _ _ _) (ncl W1 _ l1) (ncl W2 _ l2)) ?_
      rintro e3 a3 W3 hq
      cases e3 with
      | normal =>
        obtain ⟨k3, f3, i3⟩ := hq
        have l3 := k3.same _ _ l2 rfl
        have d3 := k3.same _ _ d2 rfl
        have hr := run_endRound (P := P) none l3
        have hl3 : w.heap.size + 1 < W3.heap.size := (Array.getElem?_eq_some_iff.1 l3).1
        have fp := fr_putObj W3 (w.heap.size + 1) (.loop { rc .ready with state := .ready })
        refine ⟨_, _, hr, rfl, ⟨hI _ _ _ i3 (ncl W3 _ l3) (fr_putObj _ _ _), ?_, (World.putObj_heap_other (by omega)).trans d3⟩, f3.on ((fr_putObj _ _ _).mono (fun q _ e => .inr (by omega)))⟩
        rw [World.putObj_heap_same hl3, hrc]
        rfl
      | ret => exact hq.elim
      | exit id => exact hq.elim
      | goto t => exact hq.elim
      | panic ch => exact hq.elim
      | outgrown => exact hq.elim
    | ret => exact hp.elim
    | exit id => exact hp.elim
    | goto t => exact hp.elim
    | panic ch => exact hp.elim
    | outgrown => exact hp.elim
  · rintro e W2 ⟨⟨v, rfl⟩, xs, hS, i, l2, d2⟩
    have hr := run_endLoop (P := P) l2 (by rw [hrc]; simp)
    refine ⟨none, _, by rw [hr, hrc], hdone xs _ hS (hI _ _ _ i (ncl W2 _ l2) (fr_putObj _ _ _)) ((World.putObj_heap_other (by omega)).trans d2)⟩
end Go.Proofs.Ytbghjcfepjbppaa.Bk
/-
  The book: behind 29; what is read.
-/
namespace Go.Proofs.Ytbghjcfepjbppaa.Bk
open Go.RowKit
attribute [local go_sem] Oper.semAt_some
theorem behind_any {w : World} (t : Nat) (from_ most : Int) : CallsIn Fence.wide 3 Try.prog 58 #[.pointer (some ⟨t, 0, none⟩), .int .i64 from_, .int .i64 most] w fun e w' =>
    e = .returned (.func (.func 81) #[] #[.pointer (some ⟨w.heap.size, 0, none⟩), .pointer (some ⟨w.heap.size + 1, 0, none⟩), .pointer (some ⟨w.heap.size + 2, 0, none⟩)]) ∧
      w' = ((w.alloc (.cells #[.pointer (some ⟨t, 0, none⟩)] 76)).alloc (.cells #[.int .i64 from_] 3)).alloc (.cells #[.int .i64 most] 3) := by
  refine (callsIn_wide (n := 3)).2 ?_
  go_enter Try.func58, Try.ntmps58
  go_wp2_with fail
  go_ret
  exact ⟨rfl, rfl⟩
/-- which matches are read -/
def sub (base : Int) (LL : List (List Int)) (from_ most : Int) : List (List Int) := (LL.drop (from_ - base).toNat).take most.toNat
abbrev Mv := Value × List Int
def encM (x : Mv) : Value := .agg #[x.1]
theorem pre_step {LL : List (List Int)} {k : Nat} (h : k < LL.length) {pre : List Mv} (hp : pre.map (·.2) = LL.take k) (u : Value) : (pre ++ [(u, LL[k])]).map (·.2) = LL.take (k + 1) := by
  rw [List.map_append, hp, List.take_succ_eq_append_getElem h]
  rfl
end Go.Proofs.Ytbghjcfepjbppaa.Bk
/-
  The book: the function that yields, 39, where there is nothing to give.
-/
namespace Go.Proofs.Ytbghjcfepjbppaa.Bk
open Go.RowKit
attribute [local go_sem] Oper.semAt_some
set_option maxHeartbeats 8000000 in
set_option maxRecDepth 100000 in
theorem yields0 {w : World} {Bk : Nat → Prop} {Fb : Nat → Prop} {t bt bf bm : Nat} {base from_ most : Int} {LL : List (List Int)} (m : Nat)
    (h : BookAt w Bk t base LL) (ok : BOk base LL) (hf : base ≤ from_) (hf2 : from_ ≤ 9223372036854775807) (hmo : 0 ≤ most)
    (kt : Blk w bt 76 #[.pointer (some ⟨t, 0, none⟩)]) (kf : Blk w bf 3 #[.int .i64 from_]) (km : Blk w bm 3 #[.int .i64 most])
    (hz : (sub base LL from_ most).length = 0) :
    Gives Try.prog m 81 #[.pointer (some ⟨bt, 0, none⟩), .pointer (some ⟨bf, 0, none⟩), .pointer (some ⟨bm, 0, none⟩)] encM (fun x W => OwnN W w.heap.size x.1 x.2)
      (fun l => l.map (·.2) <+: sub base LL from_ most) (fun l => l.map (·.2) = sub base LL from_ most) Fb w := by
  intro l J W hW hJ hY h0
  have o0 := ok.b0
  have o1 := ok.b1
  have o2 := ok.n
  have HB := h.next hW
  obtain ⟨v, cs, kb, r, e, ht, hv, hlt⟩ := HB
  have hcl := e.1
  obtain ⟨va, vc, rfl, hvc, hvc2⟩ := r.form
  have b0 : W.cell? ⟨bt, 0, none⟩ = some (.pointer (some ⟨t, 0, none⟩)) := (kt.next hW).cell 0
  have b1 : W.cell? ⟨bf, 0, none⟩ = some (.int .i64 from_) := (kf.next hW).cell 0
  have b2 : W.cell? ⟨bm, 0, none⟩ = some (.int .i64 most) := (km.next hW).cell 0
  have c0 : W.cell? ⟨t, 0, none⟩ = some (.int .i64 base) := kb.cell 0
  have c1 : W.cell? ⟨t, 1, none⟩ = some (.slice va cs.length vc) := kb.cell 1
  -- the two cuts
  obtain ⟨d, hd⟩ : ∃ d : Nat, d = (if (from_ - base).toNat ≤ cs.length then (from_ - base).toNat else cs.length) := ⟨_, rfl⟩
  have hdl : d ≤ cs.length := by rw [hd]; split <;> omega
  obtain ⟨n, hn⟩ : ∃ n : Nat, n = (if most.toNat ≤ cs.length - d then most.toNat else cs.length - d) := ⟨_, rfl⟩
  have hnl : n ≤ cs.length - d := by rw [hn]; split <;> omega
  have hsub : sub base LL from_ most = (LL.drop d).take n := by
    unfold sub
    rw [hd]
    by_cases h1 : (from_ - base).toNat ≤ cs.length
    · rw [if_pos h1] at hd ⊢
      rw [hn]
      by_cases h2 : most.toNat ≤ cs.length - d
      · rw [if_pos h2]
      · rw [if_neg h2, List.take_of_length_le (by rw [List.length_drop]; omega), List.take_of_length_le (by rw [List.length_drop]; omega)]
    · rw [if_neg h1, List.drop_of_length_le (by omega), List.drop_of_length_le (by omega), List.take_nil, List.take_nil]
  have hsl : (sub base LL from_ most).length = n := by rw [hsub, List.length_take, List.length_drop]; omega
  have hmin1 : (if (cs.length : Int) < from_ - base then (cs.length : Int) else from_ - base) = (d : Int) := by
    rw [hd]; split <;> split <;> omega
  have hmin2 : (if ((cs.length - d : Nat) : Int) < most then ((cs.length - d : Nat) : Int) else most) = (n : Int) := by
    rw [hn]; split <;> split <;> omega
  have hfb : IntKind.i64.wrap (from_ - base) = from_ - base := by rw [IntKind.wrap_i64]; omega
  have hdI : (d : Int) ≤ (cs.length : Int) := by omega
  refine callsIn_of_wp Try.func81 rfl trivial ?_ rfl
  simp only [Try.ntmps81, List.size_toArray, List.length_cons, List.length_nil, Nat.reduceAdd, Nat.reduceSub, Array.replicate_succ, Array.replicate_zero, List.push_toArray, List.append_toArray, List.nil_append, List.cons_append]
  obtain ⟨SL, hSL⟩ : ∃ SL, SL = sub base LL from_ most := ⟨_, rfl⟩
  rw [← hSL] at hsub hsl hY ⊢
  have HJ1 : Hid (J [] W.drew) := Lib.hid (hJ _ _ _ h0 (Below.refl _ W).drew)
  have HSL := Lib.hid hsl
  have HW := Lib.hid hW
  have HHJ := Lib.hid hJ
  have HHY := Lib.hid hY
  have hvcI : (cs.length : Int) ≤ (vc : Int) := by omega
  have hvcI2 : (d : Int) ≤ (vc : Int) := by omega
  have hlen64 : cs.length ≤ 64 := by omega
  rw [← hSL] at hz
  have hn0 : n = 0 := by omega
  have HS0 : Hid (List.map (fun x : Mv => x.2) [] = SL) := Lib.hid (by rw [List.map_nil]; exact (List.length_eq_zero_iff.1 (by rw [hsl, hn0])).symm)
  clear hz r e kb hv hlt hsub hsl h0 hJ hY hW kt kf km ht h ok hd hn hSL HHY HHJ HW HSL o2
  generalize LL.length = nn at *
  clear hcl
  generalize hZ : cs.length = z at *
  clear hZ
  subst hn0
  by_cases hA : (z : Int) < from_ - base
  · obtain rfl : d = z := by rw [if_pos hA] at hmin1; omega
    have hAB := decide_eq_true hA
    have hfd : d - d = 0 := by omega
    have hM : ¬ most < ((0 : Nat) : Int) := by omega
    clear hmin1 hmin2
    by_cases hM : ((0 : Nat) : Int) < most
    · have hMB := decide_eq_true hM
      by_cases hdv : vc = d
      · subst hdv
        gi_wp2
        gi_region
        all_goals gi_wp2
        all_goals
          gi_loopw [32] (fun i wr => i = .int .i64 0 ∧ Hid (J [] wr)) (fun _ _ => 0)
          case atStart => exact ⟨rfl, HJ1⟩
          case round =>
            obtain ⟨rfl, hJs⟩ := hrel
            gi_wp2
            go_end0
            exact ⟨⟨_, rfl⟩, [], HS0.out, hJs.out⟩
      · gi_wp2
        gi_region
        all_goals gi_wp2
        all_goals
          gi_loopw [32] (fun i wr => i = .int .i64 0 ∧ Hid (J [] wr)) (fun _ _ => 0)
          case atStart => exact ⟨rfl, HJ1⟩
          case round =>
            obtain ⟨rfl, hJs⟩ := hrel
            gi_wp2
            go_end0
            exact ⟨⟨_, rfl⟩, [], HS0.out, hJs.out⟩
    · obtain rfl : most = 0 := by omega
      clear hM
      by_cases hdv : vc = d
      · subst hdv
        gi_wp2
        gi_region
        all_goals gi_wp2
        all_goals
          gi_loopw [32] (fun i wr => i = .int .i64 0 ∧ Hid (J [] wr)) (fun _ _ => 0)
          case atStart => exact ⟨rfl, HJ1⟩
          case round =>
            obtain ⟨rfl, hJs⟩ := hrel
            gi_wp2
            go_end0
            exact ⟨⟨_, rfl⟩, [], HS0.out, hJs.out⟩
      · gi_wp2
        gi_region
        all_goals gi_wp2
        all_goals
          gi_loopw [32] (fun i wr => i = .int .i64 0 ∧ Hid (J [] wr)) (fun _ _ => 0)
          case atStart => exact ⟨rfl, HJ1⟩
          case round =>
            obtain ⟨rfl, hJs⟩ := hrel
            gi_wp2
            go_end0
            exact ⟨⟨_, rfl⟩, [], HS0.out, hJs.out⟩
  · have hfd : from_ - base = (d : Int) := by rw [if_neg hA] at hmin1; omega
    clear hfb hmin1 hA
    have hAB : decide ((z : Int) < (d : Int)) = false := decide_eq_false (by omega)
    by_cases hM : ((z - d : Nat) : Int) < most
    · have hzd : z = d := by rw [if_pos hM] at hmin2; omega
      subst hzd
      have hzz : z - z = 0 := by omega
      have hMB := decide_eq_true hM
      clear hmin2
      by_cases hdv : vc = z
      · subst hdv
        gi_wp2
        gi_region
        all_goals gi_wp2
        all_goals
          gi_loopw [32] (fun i wr => i = .int .i64 0 ∧ Hid (J [] wr)) (fun _ _ => 0)
          case atStart => exact ⟨rfl, HJ1⟩
          case round =>
            obtain ⟨rfl, hJs⟩ := hrel
            gi_wp2
            go_end0
            exact ⟨⟨_, rfl⟩, [], HS0.out, hJs.out⟩
      · gi_wp2
        gi_region
        all_goals gi_wp2
        all_goals
          gi_loopw [32] (fun i wr => i = .int .i64 0 ∧ Hid (J [] wr)) (fun _ _ => 0)
          case atStart => exact ⟨rfl, HJ1⟩
          case round =>
            obtain ⟨rfl, hJs⟩ := hrel
            gi_wp2
            go_end0
            exact ⟨⟨_, rfl⟩, [], HS0.out, hJs.out⟩
    · have hmn : most = 0 := by rw [if_neg hM] at hmin2; omega
      subst hmn
      have hMB := decide_eq_false hM
      clear hmin2 hM
      by_cases hdv : vc = d
      · subst hdv
        gi_wp2
        gi_region
        all_goals gi_wp2
        all_goals
          gi_loopw [32] (fun i wr => i = .int .i64 0 ∧ Hid (J [] wr)) (fun _ _ => 0)
          case atStart => exact ⟨rfl, HJ1⟩
          case round =>
            obtain ⟨rfl, hJs⟩ := hrel
            gi_wp2
            go_end0
            exact ⟨⟨_, rfl⟩, [], HS0.out, hJs.out⟩
      · gi_wp2
        gi_region
        all_goals gi_wp2
        all_goals
          gi_loopw [32] (fun i wr => i = .int .i64 0 ∧ Hid (J [] wr)) (fun _ _ => 0)
          case atStart => exact ⟨rfl, HJ1⟩
          case round =>
            obtain ⟨rfl, hJs⟩ := hrel
            gi_wp2
            go_end0
            exact ⟨⟨_, rfl⟩, [], HS0.out, hJs.out⟩
end Go.Proofs.Ytbghjcfepjbppaa.Bk
/-
  The book: the function that yields, where there is something to give.
-/
namespace Go.Proofs.Ytbghjcfepjbppaa.Bk
open Go.RowKit
attribute [local go_sem] Oper.semAt_some
set_option maxHeartbeats 8000000 in
set_option maxRecDepth 100000 in
theorem yields1 {w : World} {Bk : Nat → Prop} {Fb : Nat → Prop} {t bt bf bm : Nat} {base from_ most : Int} {LL : List (List Int)} (m : Nat) (hm : 3 ≤ m)
    (h : BookAt w Bk t base LL) (ok : BOk base LL) (hl : ∀ xs ∈ LL, xs.length ≤ 1000) (hf : base ≤ from_) (hf2 : from_ ≤ 9223372036854775807) (hmo : 0 ≤ most)
    (kt : Blk w bt 76 #[.pointer (some ⟨t, 0, none⟩)]) (kf : Blk w bf 3 #[.int .i64 from_]) (km : Blk w bm 3 #[.int .i64 most])
    (hB : ∀ q, Bk q → ¬ Fb q) (hz : 0 < (sub base LL from_ most).length) :
    Gives Try.prog m 81 #[.pointer (some ⟨bt, 0, none⟩), .pointer (some ⟨bf, 0, none⟩), .pointer (some ⟨bm, 0, none⟩)] encM (fun x W => OwnN W w.heap.size x.1 x.2)
      (fun l => l.map (·.2) <+: sub base LL from_ most) (fun l => l.map (·.2) = sub base LL from_ most) Fb w := by
  intro l J W hW hJ hY h0
  have o0 := ok.b0
  have o1 := ok.b1
  have o2 := ok.n
  have HB := h.next hW
  have hlt0 : ∀ q, Bk q → q < w.heap.size := by
    obtain ⟨_, _, _, _, _, _, _, h0⟩ := h
    exact h0
  obtain ⟨v, cs, kb, r, e, ht, hv, hlt⟩ := HB
  have hcl := e.1
  obtain ⟨va, vc, rfl, hvc, hvc2⟩ := r.form
  have b0 : W.cell? ⟨bt, 0, none⟩ = some (.pointer (some ⟨t, 0, none⟩)) := (kt.next hW).cell 0
  have b1 : W.cell? ⟨bf, 0, none⟩ = some (.int .i64 from_) := (kf.next hW).cell 0
  have b2 : W.cell? ⟨bm, 0, none⟩ = some (.int .i64 most) := (km.next hW).cell 0
  have c0 : W.cell? ⟨t, 0, none⟩ = some (.int .i64 base) := kb.cell 0
  have c1 : W.cell? ⟨t, 1, none⟩ = some (.slice va cs.length vc) := kb.cell 1
  -- the two cuts
  obtain ⟨d, hd⟩ : ∃ d : Nat, d = (if (from_ - base).toNat ≤ cs.length then (from_ - base).toNat else cs.length) := ⟨_, rfl⟩
  have hdl : d ≤ cs.length := by rw [hd]; split <;> omega
  obtain ⟨n, hn⟩ : ∃ n : Nat, n = (if most.toNat ≤ cs.length - d then most.toNat else cs.length - d) := ⟨_, rfl⟩
  have hnl : n ≤ cs.length - d := by rw [hn]; split <;> omega
  have hsub : sub base LL from_ most = (LL.drop d).take n := by
    unfold sub
    rw [hd]
    by_cases h1 : (from_ - base).toNat ≤ cs.length
    · rw [if_pos h1] at hd ⊢
      rw [hn]
      by_cases h2 : most.toNat ≤ cs.length - d
      · rw [if_pos h2]
      · rw [if_neg h2, List.take_of_length_le (by rw [List.length_drop]; omega), List.take_of_length_le (by rw [List.length_drop]; omega)]
    · rw [if_neg h1, List.drop_of_length_le (by omega), List.drop_of_length_le (by omega), List.take_nil, List.take_nil]
  have hsl : (sub base LL from_ most).length = n := by rw [hsub, List.length_take, List.length_drop]; omega
  have hmin1 : (if (cs.length : Int) < from_ - base then (cs.length : Int) else from_ - base) = (d : Int) := by
    rw [hd]; split <;> split <;> omega
  have hmin2 : (if ((cs.length - d : Nat) : Int) < most then ((cs.length - d : Nat) : Int) else most) = (n : Int) := by
    rw [hn]; split <;> split <;> omega
  have hfb : IntKind.i64.wrap (from_ - base) = from_ - base := by rw [IntKind.wrap_i64]; omega
  have hdI : (d : Int) ≤ (cs.length : Int) := by omega
  refine callsIn_of_wp Try.func81 rfl trivial ?_ rfl
  simp only [Try.ntmps81, List.size_toArray, List.length_cons, List.length_nil, Nat.reduceAdd, Nat.reduceSub, Array.replicate_succ, Array.replicate_zero, List.push_toArray, List.append_toArray, List.nil_append, List.cons_append]
  obtain ⟨SL, hSL⟩ : ∃ SL, SL = sub base LL from_ most := ⟨_, rfl⟩
  rw [← hSL] at hsub hsl hY ⊢
  have HJ1 : Hid (J [] W.drew) := Lib.hid (hJ _ _ _ h0 (Below.refl _ W).drew)
  have HSL := Lib.hid hsl
  have HW := Lib.hid hW
  have HHJ := Lib.hid hJ
  have HHY := Lib.hid hY
  have hvcI : (cs.length : Int) ≤ (vc : Int) := by omega
  have hvcI2 : (d : Int) ≤ (vc : Int) := by omega
  have hlen64 : cs.length ≤ 64 := by omega
  rw [← hSL] at hz
  have hn0 : 0 < n := by omega
  have hdv : ¬ vc = d := by omega
  obtain ⟨g, o, hva⟩ : ∃ g o, va = some ⟨g, o, none⟩ := by
    obtain ⟨g, o, c, e1, -⟩ := r.at_ (k := 0) (by omega)
    simp only [Value.slice.injEq] at e1
    exact ⟨g, o, e1.1⟩
  subst hva
  have CELL : Hid (∀ k, k < n → ∃ (u : Value) (xs : List Int), (∀ wr, Fr W wr (fun q => Fb q ∨ w.heap.size ≤ q) → wr.cell? ⟨g, o + d + k, none⟩ = some u) ∧ (∀ wr, Fr W wr (fun q => Fb q ∨ w.heap.size ≤ q) → El wr Bk u xs) ∧ xs.length ≤ 1000 ∧
      (∀ pre : List Mv, pre.map (fun x : Mv => x.2) = SL.take k → ∀ u' : Value, (pre ++ [(u', xs)]).map (fun x : Mv => x.2) <+: SL ∧ (pre ++ [(u', xs)]).map (fun x : Mv => x.2) = SL.take (k + 1))) := Lib.hid fun k hk => by
    have hk1 : d + k < cs.length := by omega
    have hk2 : d + k < LL.length := by omega
    have hP : ∀ q, Bk q → ¬ (Fb q ∨ w.heap.size ≤ q) := fun q hq hh => by
      rcases hh with hh | hh
      · exact hB q hq hh
      · have := hlt0 q hq; omega
    refine ⟨cs[d + k], LL[d + k], fun wr f => ?_, fun wr f => (e.2 (d + k) hk1 hk2).fr f (fun q _ hq _ => hP q hq), hl _ (List.getElem_mem hk2), fun pre hp u' => ?_⟩
    · obtain ⟨g', o', c', e1, hg, ck, -⟩ := r.at_ hk1
      simp only [Value.slice.injEq, Option.some.injEq, Addr.mk.injEq, and_true] at e1
      obtain ⟨⟨rfl, rfl⟩, -⟩ := e1
      rw [World.cell?_of_block (f.block g hg (hP g (hv g rfl))), Nat.add_assoc]
      exact ck
    · have e2 : (pre ++ [(u', LL[d + k])]).map (fun x : Mv => x.2) = SL.take (k + 1) := by
        have hk3 : k < SL.length := by omega
        rw [List.map_append, hp, List.take_succ_eq_append_getElem hk3]
        congr 1
        simp only [List.map_cons, List.map_nil, List.cons.injEq, and_true]
        have : SL[k]? = LL[d + k]? := by rw [hsub, List.getElem?_take, if_pos hk, List.getElem?_drop]
        rw [List.getElem?_eq_getElem hk3, List.getElem?_eq_getElem hk2] at this
        exact (Option.some.inj this).symm
      exact ⟨by rw [e2]; exact List.take_prefix _ _, e2⟩
  clear hz r e kb hv hlt hsub hsl hl h0 hJ hY hW kt kf km hB ht h ok hd hn hSL o2 hlt0
  generalize LL.length = nn at *
  clear hcl
  generalize hZ : cs.length = z at *
  clear hZ
  have hmm : 1 ≤ m - 1 - 1 := by omega
  have hmm2 : 1 ≤ m - 1 := by omega
  have hmm1 : 1 ≤ m := by omega
  have hA : ¬ (z : Int) < from_ - base := by
    intro hA
    rw [if_pos hA] at hmin1
    omega
  have hfd : from_ - base = (d : Int) := by rw [if_neg hA] at hmin1; omega
  clear hfb hmin1 hA
  have hAB : decide ((z : Int) < (d : Int)) = false := decide_eq_false (by omega)
  by_cases hM : ((z - d : Nat) : Int) < most
  · have hzd : z - d = n := by rw [if_pos hM] at hmin2; omega
    rw [hzd] at hM
    have hMB := decide_eq_true hM
    clear hmin2
    gi_wp2
    gi_region
    all_goals gi_wp2
    all_goals
      gi_loopw [32] (fun i wr => ∃ (k : Nat) (pre : List Mv), k ≤ n ∧ i = .int .i64 k ∧ Hid (pre.map (fun x : Mv => x.2) = SL.take k) ∧ Hid (J pre wr) ∧ Hid (Fr W wr (fun q => Fb q ∨ w.heap.size ≤ q))) (fun i _ => n - (intOf i).toNat)
      case atStart => exact ⟨0, [], Nat.zero_le _, rfl, Lib.hid (by simp), HJ1, Lib.hid (fr_drew _ _)⟩
      case round =>
        obtain ⟨k, pre, hk, rfl, hp, hJs, hF⟩ := hrel
        by_cases hkn : k < n
        · have hkI : (k : Int) < (n : Int) := by omega
          obtain ⟨u, xs, CK, XE, XL, PS⟩ := CELL.out k hkn
          have PS1 := Lib.hid (PS pre hp.out)
          have ck := (CK wr hF.out)
          have EL1 := Lib.hid (XE wr hF.out)
          obtain ⟨au, cu, rfl, nu⟩ := EL1.out.nums
          have XL1 := Lib.hid XL
          clear CK XE PS XL
          obtain ⟨w5, hw5⟩ : ∃ w5, w5 = wr.alloc (.cells #[.slice au xs.length cu] 70) := ⟨_, rfl⟩
          have k5 : Blk w5 wr.heap.size 70 #[.slice au xs.length cu] := by rw [hw5]; exact Blk.new wr 70 _
          have b5 : Below wr.heap.size wr w5 := by rw [hw5]; exact (Below.refl _ wr).alloc (Nat.le_refl _) _
          have HW5 := Lib.hid hw5
          have HCP := Lib.hid (copied_any cu (nu.next b5) XL1.out)
          have z5 : w5.cell? ⟨wr.heap.size, 0, none⟩ = some (.slice au xs.length cu) := k5.cell 0
          have YY : Hid (∀ w6 u', OwnN w6 w5.heap.size u' xs → Below w5.heap.size w5 w6 → YieldAt Fence.wide (m - 1) Try.prog l #[.agg #[u']] w6 fun e W' => e = .returned (.bool true) ∧ J (pre ++ [(u', xs)]) W' ∧ Fr W W' (fun q => Fb q ∨ w.heap.size ≤ q)) := Lib.hid fun w6 u' ho b6 => by
            have b56 : Below wr.heap.size wr w6 := b5.trans (b6.mono b5.size)
            have hwr : w.heap.size ≤ wr.heap.size := Nat.le_trans HW.out.size hF.out.size
            refine (HHY.out pre (u', xs) w6 (HHJ.out _ _ _ hJs.out b56) (ho.drop (w' := w) (Nat.le_trans hwr b5.size)) ?_).mono ?_
            · exact (PS1.out u').1
            · rintro e W' ⟨rfl, hj, hf⟩
              exact ⟨rfl, hj, (hF.out.on (Fr.of_below b56 _)).on hf⟩
          have PS2 := Lib.hid (fun u' => (PS1.out u').2)
          clear hw5 k5 b5 nu EL1 PS1 hJs hF hp HHY HHJ CELL HJ1
          gi_wp2
          rw [← HW5.out]
          refine ⟨trivial, ?_⟩
          refine ((callsIn_wide (n := m - 1)).2 HCP.out).mono ?_
          rintro e w6 ⟨u', rfl, ho, b6⟩
          obtain ⟨fn, tmps, assign, body, hy, hR⟩ := YY.out w6 u' ho b6
          obtain ⟨au', cu', rfl, -⟩ := ho.nums
          have PS3 := Lib.hid (PS2.out (.slice au' xs.length cu'))
          have HRR := Lib.hid hR
          clear hR ho b6 HCP YY PS2 HW5
          gi_wp2
          refine HRR.out.mono ?_
          rintro e w7 ⟨rfl, hj7, hf7⟩
          have J7 := Lib.hid hj7
          have F7 := Lib.hid hf7
          clear HRR hj7 hf7 hy
          gi_wp2
          go_roundw
          case rel => exact ⟨k + 1, _, by omega, by go_num, PS3.out, J7.out, F7.out⟩
          case measure => simp [intOf]; omega
        · obtain rfl : k = n := by omega
          have hkI : ¬ (k : Int) < (k : Int) := by omega
          gi_wp2
          go_end0
          exact ⟨⟨_, rfl⟩, pre, by rw [hp.out, List.take_of_length_le (by rw [HSL.out]; exact Nat.le_refl _)], hJs.out⟩
  · have hmn : most = (n : Int) := by rw [if_neg hM] at hmin2; omega
    subst hmn
    have hMB := decide_eq_false hM
    clear hmin2 hM
    gi_wp2
    gi_region
    all_goals gi_wp2
    all_goals
      gi_loopw [32] (fun i wr => ∃ (k : Nat) (pre : List Mv), k ≤ n ∧ i = .int .i64 k ∧ Hid (pre.map (fun x : Mv => x.2) = SL.take k) ∧ Hid (J pre wr) ∧ Hid (Fr W wr (fun q => Fb q ∨ w.heap.size ≤ q))) (fun i _ => n - (intOf i).toNat)
      case atStart => exact ⟨0, [], Nat.zero_le _, rfl, Lib.hid (by simp), HJ1, Lib.hid (fr_drew _ _)⟩
      case round =>
        obtain ⟨k, pre, hk, rfl, hp, hJs, hF⟩ := hrel
        by_cases hkn : k < n
        · have hkI : (k : Int) < (n : Int) := by omega
          obtain ⟨u, xs, CK, XE, XL, PS⟩ := CELL.out k hkn
          have PS1 := Lib.hid (PS pre hp.out)
          have ck := (CK wr hF.out)
          have EL1 := Lib.hid (XE wr hF.out)
          obtain ⟨au, cu, rfl, nu⟩ := EL1.out.nums
          have XL1 := Lib.hid XL
          clear CK XE PS XL
          obtain ⟨w5, hw5⟩ : ∃ w5, w5 = wr.alloc (.cells #[.slice au xs.length cu] 70) := ⟨_, rfl⟩
          have k5 : Blk w5 wr.heap.size 70 #[.slice au xs.length cu] := by rw [hw5]; exact Blk.new wr 70 _
          have b5 : Below wr.heap.size wr w5 := by rw [hw5]; exact (Below.refl _ wr).alloc (Nat.le_refl _) _
          have HW5 := Lib.hid hw5
          have HCP := Lib.hid (copied_any cu (nu.next b5) XL1.out)
          have z5 : w5.cell? ⟨wr.heap.size, 0, none⟩ = some (.slice au xs.length cu) := k5.cell 0
          have YY : Hid (∀ w6 u', OwnN w6 w5.heap.size u' xs → Below w5.heap.size w5 w6 → YieldAt Fence.wide (m - 1) Try.prog l #[.agg #[u']] w6 fun e W' => e = .returned (.bool true) ∧ J (pre ++ [(u', xs)]) W' ∧ Fr W W' (fun q => Fb q ∨ w.heap.size ≤ q)) := Lib.hid fun w6 u' ho b6 => by
            have b56 : Below wr.heap.size wr w6 := b5.trans (b6.mono b5.size)
            have hwr : w.heap.size ≤ wr.heap.size := Nat.le_trans HW.out.size hF.out.size
            refine (HHY.out pre (u', xs) w6 (HHJ.out _ _ _ hJs.out b56) (ho.drop (w' := w) (Nat.le_trans hwr b5.size)) ?_).mono ?_
            · exact (PS1.out u').1
            · rintro e W' ⟨rfl, hj, hf⟩
              exact ⟨rfl, hj, (hF.out.on (Fr.of_below b56 _)).on hf⟩
          have PS2 := Lib.hid (fun u' => (PS1.out u').2)
          clear hw5 k5 b5 nu EL1 PS1 hJs hF hp HHY HHJ CELL HJ1
          gi_wp2
          rw [← HW5.out]
          refine ⟨trivial, ?_⟩
          refine ((callsIn_wide (n := m - 1)).2 HCP.out).mono ?_
          rintro e w6 ⟨u', rfl, ho, b6⟩
          obtain ⟨fn, tmps, assign, body, hy, hR⟩ := YY.out w6 u' ho b6
          obtain ⟨au', cu', rfl, -⟩ := ho.nums
          have PS3 := Lib.hid (PS2.out (.slice au' xs.length cu'))
          have HRR := Lib.hid hR
          clear hR ho b6 HCP YY PS2 HW5
          gi_wp2
          refine HRR.out.mono ?_
          rintro e w7 ⟨rfl, hj7, hf7⟩
          have J7 := Lib.hid hj7
          have F7 := Lib.hid hf7
          clear HRR hj7 hf7 hy
          gi_wp2
          go_roundw
          case rel => exact ⟨k + 1, _, by omega, by go_num, PS3.out, J7.out, F7.out⟩
          case measure => simp [intOf]; omega
        · obtain rfl : k = n := by omega
          have hkI : ¬ (k : Int) < (k : Int) := by omega
          gi_wp2
          go_end0
          exact ⟨⟨_, rfl⟩, pre, by rw [hp.out, List.take_of_length_le (by rw [HSL.out]; exact Nat.le_refl _)], hJs.out⟩
end Go.Proofs.Ytbghjcfepjbppaa.Bk
/-
  The book: the function that yields.
-/
namespace Go.Proofs.Ytbghjcfepjbppaa.Bk
open Go.RowKit
theorem yields {w : World} {Bk : Nat → Prop} {Fb : Nat → Prop} {t bt bf bm : Nat} {base from_ most : Int} {LL : List (List Int)} (m : Nat) (hm : 3 ≤ m)
    (h : BookAt w Bk t base LL) (ok : BOk base LL) (hl : ∀ xs ∈ LL, xs.length ≤ 1000) (hf : base ≤ from_) (hf2 : from_ ≤ 9223372036854775807) (hmo : 0 ≤ most)
    (kt : Blk w bt 76 #[.pointer (some ⟨t, 0, none⟩)]) (kf : Blk w bf 3 #[.int .i64 from_]) (km : Blk w bm 3 #[.int .i64 most])
    (hB : ∀ q, Bk q → ¬ Fb q) :
    Gives Try.prog m 81 #[.pointer (some ⟨bt, 0, none⟩), .pointer (some ⟨bf, 0, none⟩), .pointer (some ⟨bm, 0, none⟩)] encM (fun x W => OwnN W w.heap.size x.1 x.2)
      (fun l => l.map (fun x : Mv => x.2) <+: sub base LL from_ most) (fun l => l.map (fun x : Mv => x.2) = sub base LL from_ most) Fb w := by
  rcases Nat.eq_zero_or_pos (sub base LL from_ most).length with hz | hz
  · exact yields0 m h ok hf hf2 hmo kt kf km hz
  · exact yields1 m hm h ok hl hf hf2 hmo kt kf km hB hz
end Go.Proofs.Ytbghjcfepjbppaa.Bk
