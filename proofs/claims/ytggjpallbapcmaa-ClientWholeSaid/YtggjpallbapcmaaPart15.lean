/-
  WHAT THE ROWS REST ON, part 15: Bdm BTake BMeths Bmm Bco.
-/
import Derived.BigQuiet
import Derived.WalkKit
import Derived.Handy
import Derived.Deep.AppendLies
import Derived.Deep.RegionLaw
import Derived.Laws.OwnMore
import Derived.Lib.QuietBelow
import Derived.Deep.QuietTactic
import Derived.Deep.LoopGhost
import Derived.RegionTactic
import Derived.LoopTactic
import Derived.Laws.NewBlocks
import Derived.Laws.Externs
import Derived.Lib.SliceRun
import Derived.Test.YtggjpallbapcmaaPart14
/-
  The book: the document's May (25).
-/
namespace Go.Proofs.Ytggjpallbapcmaa.Bk
open Go.RowKit
theorem below_drewN {B : Nat} {w w' : World} (h : Below B w w') (n : Nat) : Below B w (w'.drewN n) := ⟨h.os, h.tape, h.output, h.size, h.block⟩
end Go.Proofs.Ytggjpallbapcmaa.Bk
/-
  THE WALKS OF bits.take at its five instances: a call that reads at the tape's place, goes behind it, or notes an error and stays.
-/
namespace Go.Proofs.Ytggjpallbapcmaa.Bt
open Go.RowKit


set_option maxHeartbeats 400000 in
theorem takeNum_ok {w : World} {b : Nat} {s : ByteArray} (n : Nat) (k : Nat) (h : TapeAt w b s 0) (hk : k ≤ s.size)
    (hhow : Hid (Calls Try.prog 83 #[.string s] w fun e w' => e = .returned (.tuple #[.int .u64 (n : Int), .int .i64 (k : Int), .int .i64 0]) ∧ Below w.heap.size w w')) :
    Calls Try.prog 82 #[.pointer (some ⟨b, 0, none⟩), .func (.func 83) #[] #[]] w fun r w' => r = .returned (.int .u64 (n : Int)) ∧ w.grownBy w' (some b) ∧ TapeAt w' b (s.extract k s.size) 0 := by
  have g0 := h.c0
  go_enter Try.func82, Try.ntmps82
  go_wp2_with fail
  refine (err_any h).mono ?_
  rintro r w1 ⟨rfl, rfl⟩
  go_wp2_with fail
  refine hhow.out.mono ?_
  rintro r w1 ⟨rfl, hb⟩
  have h' := h.next hb
  have g0' := h'.c0
  have gf := h'.f 0
  go_wp2_with fail
  go_ret
  exact ⟨rfl, grownBy_set hb _ _ _, h'.set0⟩
set_option maxHeartbeats 400000 in
theorem takeNum_bad {w : World} {b : Nat} {s : ByteArray} (n : Nat) (k e : Int) (h : TapeAt w b s 0) (he : e ≠ 0)
    (hhow : Hid (Calls Try.prog 83 #[.string s] w fun r w' => r = .returned (.tuple #[.int .u64 (n : Int), .int .i64 k, .int .i64 e]) ∧ Below w.heap.size w w')) :
    Calls Try.prog 82 #[.pointer (some ⟨b, 0, none⟩), .func (.func 83) #[] #[]] w fun r w' => r = .returned (.int .u64 0) ∧ w.grownBy w' (some b) ∧ TapeAt w' b s e := by
  have g0 := h.c0
  have hEb : (e != 0) = true := by simp [he]
  go_enter Try.func82, Try.ntmps82
  go_wp2_with fail
  refine (err_any h).mono ?_
  rintro r w1 ⟨rfl, rfl⟩
  go_wp2_with fail
  refine hhow.out.mono ?_
  rintro r w1 ⟨rfl, hb⟩
  have h' := h.next hb
  have g1' := h'.c1
  have gf := h'.f 1
  go_wp2_with fail
  go_ret
  exact ⟨rfl, grownBy_set hb _ _ _, h'.set1⟩
set_option maxHeartbeats 400000 in
theorem takeNum_stays {w : World} {b : Nat} {s : ByteArray} {e : Int} (fv : Value) (h : TapeAt w b s e) (he : e ≠ 0) :
    Calls Try.prog 82 #[.pointer (some ⟨b, 0, none⟩), fv] w fun r w' => r = .returned (.int .u64 0) ∧ w = w' := by
  have hEb : (e != 0) = true := by simp [he]
  go_enter Try.func82, Try.ntmps82
  go_wp2_with fail
  refine (err_any h).mono ?_
  rintro r w1 ⟨rfl, rfl⟩
  go_wp2_with fail
  go_ret
  exact ⟨rfl, rfl⟩
set_option maxHeartbeats 400000 in
theorem takeNum_nil (w : World) (fv : Value) :
    Calls Try.prog 82 #[.pointer none, fv] w fun r w' => r = .returned (.int .u64 0) ∧ w = w' := by
  go_enter Try.func82, Try.ntmps82
  go_wp2_with fail
  refine (err_nil _).mono ?_
  rintro r w1 ⟨rfl, rfl⟩
  go_wp2_with fail
  go_ret
  exact ⟨rfl, rfl⟩


end Go.Proofs.Ytggjpallbapcmaa.Bt
/-
  THE WALKS OF bits.whole, float, flag, AND OF THE TAPE'S FIVE READING CALLS.
-/
namespace Go.Proofs.Ytggjpallbapcmaa.Bt
open Go.RowKit
/-- a whole number at the front -/
def rdInt (l : List UInt8) : Int × Nat × Int := (unz (rdNum l).1, (rdNum l).2.1, (rdNum l).2.2)
/-- a flag at the front -/
def rdFlag : List UInt8 → Bool × Nat × Int
  | [] => (false, 0, 5)
  | b :: _ => if 1 < b.toNat then (false, 0, 3) else ((b.toNat : Int) == 1, 1, 0)
/-- a real number at the front -/
def rdReal (l : List UInt8) : Nat × Nat × Int :=
  if l.length < 8 then (0, 0, 5) else if codeN (joinN (l.take 8)) ≠ joinN (l.take 8) then (0, 0, 3) else (joinN (l.take 8), 8, 0)
/-- what a call of a tape answers, what is left, and the error: r is what stands at the front -/
def tk {α : Type} (z : α) (s : ByteArray) (e : Int) (r : α × Nat × Int) : α × ByteArray × Int :=
  if e ≠ 0 then (z, s, e) else if r.2.2 ≠ 0 then (z, s, r.2.2) else (r.1, s.extract r.2.1 s.size, 0)
theorem tk_stays {α : Type} (z : α) (s : ByteArray) {e : Int} (r : α × Nat × Int) (he : e ≠ 0) : tk z s e r = (z, s, e) := by unfold tk; rw [if_pos he]
theorem tk_bad {α : Type} (z : α) (s : ByteArray) (v : α) (k : Nat) {e : Int} (he : e ≠ 0) : tk z s 0 (v, k, e) = (z, s, e) := by unfold tk; rw [if_neg (by simp), if_pos he]
theorem tk_ok {α : Type} (z : α) (s : ByteArray) (v : α) (k : Nat) : tk z s 0 (v, k, 0) = (v, s.extract k s.size, 0) := by unfold tk; rw [if_neg (by simp), if_neg (by simp)]
theorem grownBy_refl (w : World) (r : Option Nat) : w.grownBy w r := ⟨rfl, rfl, rfl, Nat.le_refl _, fun _ _ _ => rfl⟩
theorem rdInt_le (s : ByteArray) : (rdInt s.data.toList).2.1 ≤ s.size := by
  have := (rdNum_facts s.data.toList).2.1
  rw [← Lib.size_eq] at this; exact this
theorem rdNum_le (s : ByteArray) : (rdNum s.data.toList).2.1 ≤ s.size := by
  have := (rdNum_facts s.data.toList).2.1
  rw [← Lib.size_eq] at this; exact this
theorem rdReal_le (s : ByteArray) : (rdReal s.data.toList).2.1 ≤ s.size := by
  rw [Lib.size_eq]
  unfold rdReal
  split
  · exact Nat.zero_le _
  · split
    · exact Nat.zero_le _
    · show 8 ≤ _; omega
theorem rdFlag_le (s : ByteArray) : (rdFlag s.data.toList).2.1 ≤ s.size := by
  rw [Lib.size_eq]
  match s.data.toList with
  | [] => exact Nat.zero_le _
  | b :: t =>
    simp only [rdFlag]
    split
    · exact Nat.zero_le _
    · simp

/-- the value that a tape's Num answers -/
def vNum (x : Nat × ByteArray × Int) : Value := .int .u64 (x.1 : Int)
/-- what a tape's Num makes of it -/
def tNum (s : ByteArray) (e : Int) : Nat × ByteArray × Int := tk 0 s e (rdNum s.data.toList)
theorem tapeNum_core {w : World} {b : Nat} {s : ByteArray} {e : Int} (h : TapeAt w b s e) (hs : s.size ≤ 281474976710656) :
    Calls Try.prog 82 #[.pointer (some ⟨b, 0, none⟩), .func (.func 83) #[] #[]] w fun r w' => r = .returned (vNum (tNum s e)) ∧ w.grownBy w' (some b) ∧ TapeAt w' b (tNum s e).2.1 (tNum s e).2.2 := by
  unfold tNum
  by_cases he : e = 0
  · subst he
    have hf := rdNum_le s
    have hnum := number_any s (by omega) w
    rcases hR : rdNum s.data.toList with ⟨v, k, e⟩
    rw [hR] at hf hnum
    by_cases he : e = 0
    · subst he
      rw [tk_ok]
      exact takeNum_ok v k h hf (hnum.mono fun r w' ⟨hr, hw⟩ => ⟨hr, hw ▸ Below.refl _ _⟩)
    · rw [tk_bad _ _ _ _ he]
      exact takeNum_bad v k e h he (hnum.mono fun r w' ⟨hr, hw⟩ => ⟨hr, hw ▸ Below.refl _ _⟩)
  · rw [tk_stays _ _ _ he]
    exact (takeNum_stays _ h he).mono fun r w' ⟨hr, hw⟩ => ⟨hr, hw ▸ grownBy_refl _ _, hw ▸ h⟩
theorem tapeNum_any {w : World} {b : Nat} {s : ByteArray} {e : Int} (h : TapeAt w b s e) (hs : s.size ≤ 281474976710656) :
    Calls Try.prog 60 #[.pointer (some ⟨b, 0, none⟩)] w fun r w' => r = .returned (vNum (tNum s e)) ∧ w.grownBy w' (some b) ∧ TapeAt w' b (tNum s e).2.1 (tNum s e).2.2 := by
  have H := Lib.hid (tapeNum_core h hs)
  go_enter Try.func60, Try.ntmps60
  go_wp2_with fail
  refine H.out.mono ?_
  rintro r w1 ⟨rfl, hb⟩
  go_wp2_with fail
  go_ret
  exact ⟨rfl, hb⟩
theorem tapeNum_nil (w : World) : Calls Try.prog 60 #[.pointer none] w fun r w' => r = .returned (.int .u64 0) ∧ w = w' := by
  go_enter Try.func60, Try.ntmps60
  go_wp2_with fail
  refine (takeNum_nil _ _).mono ?_
  rintro r w1 ⟨rfl, rfl⟩
  go_wp2_with fail
  go_ret
  exact ⟨rfl, rfl⟩

/-- the value that a tape's Int answers -/
def vInt (x : Int × ByteArray × Int) : Value := .int .i64 x.1
/-- what a tape's Int makes of it -/
def tInt (s : ByteArray) (e : Int) : Int × ByteArray × Int := tk 0 s e (rdInt s.data.toList)
/-- the value that a tape's Real answers -/
def vReal (x : Nat × ByteArray × Int) : Value := .float .f64 x.1
/-- what a tape's Real makes of it -/
def tReal (s : ByteArray) (e : Int) : Nat × ByteArray × Int := tk 0 s e (rdReal s.data.toList)
/-- the value that a tape's Flag answers -/
def vFlag (x : Bool × ByteArray × Int) : Value := .bool x.1
/-- what a tape's Flag makes of it -/
def tFlag (s : ByteArray) (e : Int) : Bool × ByteArray × Int := tk false s e (rdFlag s.data.toList)
theorem rdText_le (s : ByteArray) (most : Int) : (rdText s most).2.1 ≤ s.size := by
  have h := rdNum_le s
  rcases hR : rdNum s.data.toList with ⟨N, K, E⟩
  rw [rdText_eq s most hR]
  rw [hR] at h
  split
  · exact Nat.zero_le _
  · split
    · exact Nat.zero_le _
    · split
      · exact Nat.zero_le _
      · simp only at *; omega
def vText (x : ByteArray × ByteArray × Int) : Value := .string x.1
/-- what a tape's Text makes of it -/
def tText (s : ByteArray) (e : Int) (most : Int) : ByteArray × ByteArray × Int := tk ⟨#[]⟩ s e (rdText s most)
end Go.Proofs.Ytggjpallbapcmaa.Bt
/-
  THE BOOK IN MEMORY: blocks; a row of matches; a book.
-/
namespace Go.Proofs.Ytggjpallbapcmaa.Bk
open Go.RowKit
theorem ret_b {a b : Bool} (h : a = b) : Ending.returned (.bool a) = .returned (.bool b) := by rw [h]
theorem ret_i {a b : Int} (h : a = b) : Ending.returned (.int .i64 a) = .returned (.int .i64 b) := by rw [h]
/-- a block that is known whole -/
def Blk (w : World) (g : Nat) (t : TypeId) (cs : Array Value) : Prop := w.heap[g]? = some (.cells cs t (0, 0))
section
variable {w w' : World} {g : Nat} {t : TypeId} {cs : Array Value}
theorem Blk.lt (h : Blk w g t cs) : g < w.heap.size := (Array.getElem?_eq_some_iff.1 h).1
theorem Blk.cell (h : Blk w g t cs) (i : Nat) : w.cell? ⟨g, i, none⟩ = cs[i]? := cell_of_row w g i cs t (0, 0) h
theorem Blk.free (h : Blk w g t cs) (i : Nat) : w.frozen? ⟨g, i, none⟩ = false := by unfold Blk at h; simp [World.frozen?, h]
theorem Blk.new (w : World) (t : TypeId) (cs : Array Value) : Blk (w.alloc (.cells cs t)) w.heap.size t cs := heap_alloc_new w _
theorem Blk.below {B : Nat} (h : Blk w g t cs) (hb : Below B w w') (hg : g < B) : Blk w' g t cs := (hb.block g hg).trans h
theorem Blk.next (h : Blk w g t cs) (hb : Below w.heap.size w w') : Blk w' g t cs := h.below hb h.lt
theorem Blk.set (h : Blk w g t cs) (i : Nat) (u : Value) : Blk (w.setCell ⟨g, i, none⟩ u) g t (cs.setIfInBounds i u) := by
  unfold Blk at h ⊢
  simp [World.setCell, Array.getElem?_modify, h]
end
/-- blocks off P are as they were -/
structure Fr (w w' : World) (P : Nat → Prop) : Prop where
  os : w'.os = w.os
  tape : w'.tape = w.tape
  output : w'.output = w.output
  size : w.heap.size ≤ w'.heap.size
  block : ∀ q, q < w.heap.size → ¬ P q → w'.heap[q]? = w.heap[q]?
theorem Fr.refl (w : World) (P : Nat → Prop) : Fr w w P := ⟨rfl, rfl, rfl, Nat.le_refl _, fun _ _ _ => rfl⟩
theorem Fr.trans {a b c : World} {P Q R : Nat → Prop} (h : Fr a b P) (k : Fr b c Q) (hP : ∀ q, q < a.heap.size → P q → R q) (hQ : ∀ q, q < a.heap.size → Q q → R q) : Fr a c R :=
  ⟨k.os.trans h.os, k.tape.trans h.tape, k.output.trans h.output, Nat.le_trans h.size k.size, fun q hq hR => (k.block q (Nat.lt_of_lt_of_le hq h.size) (fun hh => hR (hQ q hq hh))).trans (h.block q hq (fun hh => hR (hP q hq hh)))⟩
theorem Fr.of_grown {w w' : World} {r : Option Nat} (h : w.grownBy w' r) : Fr w w' (fun q => some q = r) := ⟨h.os, h.tape, h.output, h.size, fun q hq hne => h.block q hq hne⟩
theorem Fr.of_below {w w' : World} (h : Below w.heap.size w w') (P : Nat → Prop) : Fr w w' P := ⟨h.os, h.tape, h.output, h.size, fun q hq _ => h.block q hq⟩
theorem Fr.mono {w w' : World} {P Q : Nat → Prop} (h : Fr w w' P) (hPQ : ∀ q, q < w.heap.size → P q → Q q) : Fr w w' Q := ⟨h.os, h.tape, h.output, h.size, fun q hq hn => h.block q hq (fun hh => hn (hPQ q hq hh))⟩
theorem Fr.below {w w' : World} {B : Nat} {P : Nat → Prop} (h : Fr w w' P) (hP : ∀ q, P q → B ≤ q) (hB : B ≤ w.heap.size) : Below B w w' := ⟨h.os, h.tape, h.output, h.size, fun q hq => h.block q (Nat.lt_of_lt_of_le hq hB) (fun hh => by have := hP q hh; omega)⟩
theorem fr_set (w : World) (g i : Nat) (u : Value) : Fr w (w.setCell ⟨g, i, none⟩ u) (fun q => q = g) :=
  ⟨rfl, rfl, rfl, by simp [World.setCell], fun q _ hne => Below.heap_setCell _ _ _ _ hne⟩
theorem fr_drew (w : World) (P : Nat → Prop) : Fr w w.drew P := ⟨rfl, rfl, rfl, Nat.le_refl _, fun _ _ _ => rfl⟩
theorem Fr.on {w w' w2 : World} {P : Nat → Prop} (h : Fr w w' P) (k : Fr w' w2 P) : Fr w w2 P := h.trans k (fun _ _ h => h) (fun _ _ h => h)
theorem Fr.set {w w' : World} {P : Nat → Prop} (h : Fr w w' P) (g i : Nat) (u : Value) (hg : P g ∨ w.heap.size ≤ g) : Fr w (w'.setCell ⟨g, i, none⟩ u) P :=
  h.trans (fr_set w' g i u) (fun _ _ h => h) (fun q hq e => by subst e; rcases hg with h | h; exact h; omega)
theorem Fr.al {w w' : World} {P : Nat → Prop} (h : Fr w w' P) (o : Obj) : Fr w (w'.alloc o) P :=
  h.on (Fr.of_below ((Below.refl w'.heap.size w').alloc (Nat.le_refl _) o) P)
theorem Blk.fr {w w' : World} {g : Nat} {t : TypeId} {cs : Array Value} {P : Nat → Prop} (h : Blk w g t cs) (hf : Fr w w' P) (hP : ¬ P g) : Blk w' g t cs := (hf.block g h.lt hP).trans h
theorem Fr.own {w w' : World} {P : Nat → Prop} {B n size : Nat} {e : TypeId} {v : Value} {xs : List Value} (h : w.ownsRow B e size v n xs) (f : Fr w w' P) (hP : ∀ q, v.ownBlock = some q → ¬ P q) : w'.ownsRow B e size v n xs := by
  refine ⟨h.1, ?_⟩
  rcases h.2 with hn | ⟨g, cap, cur, rfl, hb, hgg, rest⟩
  · exact .inl hn
  · refine .inr ⟨g, cap, cur, rfl, hb, ?_, rest⟩
    rw [f.block g (Array.getElem?_eq_some_iff.1 hgg).1 (hP g rfl)]
    exact hgg

/-- a row of matches in memory: its cells -/
def RowM (w : World) (v : Value) (cs : List Value) : Prop :=
  (v = .slice none 0 0 ∧ cs = []) ∨ ∃ g o cap cur, v = .slice (some ⟨g, o, none⟩) cs.length cap ∧ Blk w g 70 cur ∧ cs.length ≤ cap ∧ cap ≤ maxLen ∧ (cap = cs.length ∨ o = 0) ∧ o + cap ≤ cur.size ∧ (cur.toList.drop o).take cs.length = cs
theorem RowM.fr {w w' : World} {v : Value} {cs : List Value} {P : Nat → Prop} (h : RowM w v cs) (f : Fr w w' P) (hP : ∀ q, v.ownBlock = some q → ¬ P q) : RowM w' v cs := by
  rcases h with h | ⟨g, o, cap, cur, rfl, hb, r⟩
  · exact .inl h
  · exact .inr ⟨g, o, cap, cur, rfl, hb.fr f (hP g rfl), r⟩
theorem RowM.form {w : World} {v : Value} {cs : List Value} (h : RowM w v cs) : ∃ a c, v = .slice a cs.length c ∧ cs.length ≤ c ∧ (c : Int) ≤ 9223372036854775807 := by
  rcases h with ⟨rfl, rfl⟩ | ⟨g, o, cap, cur, rfl, _, h1, h2, _⟩
  · exact ⟨none, 0, rfl, Nat.le_refl _, by omega⟩
  · unfold maxLen at h2; exact ⟨_, _, rfl, h1, by omega⟩
theorem RowM.lt {w : World} {v : Value} {cs : List Value} (h : RowM w v cs) : ∀ q, v.ownBlock = some q → q < w.heap.size := by
  intro q hq
  rcases h with ⟨rfl, rfl⟩ | ⟨g, o, cap, cur, rfl, hb, _⟩
  · simp [Value.ownBlock] at hq
  · have : g = q := by simpa [Value.ownBlock] using hq
    rw [← this]; exact hb.lt
theorem RowM.at_ {w : World} {v : Value} {cs : List Value} (h : RowM w v cs) {k : Nat} (hk : k < cs.length) : ∃ g o c, v = .slice (some ⟨g, o, none⟩) cs.length c ∧ g < w.heap.size ∧ w.cell? ⟨g, o + k, none⟩ = some cs[k] ∧ w.frozen? ⟨g, o + k, none⟩ = false := by
  rcases h with ⟨rfl, rfl⟩ | ⟨g, o, cap, cur, rfl, hb, h1, h2, h3, h4, h5⟩
  · simp at hk
  · refine ⟨g, o, cap, rfl, hb.lt, ?_, hb.free _⟩
    rw [hb.cell, ← Array.getElem?_toList]
    have : ((cur.toList.drop o).take cs.length)[k]? = cs[k]? := by rw [h5]
    rw [List.getElem?_take, if_pos hk, List.getElem?_drop] at this
    rw [this, List.getElem?_eq_getElem hk]
theorem addr_add (g o j : Nat) : (⟨g, o, none⟩ : Addr).add j = ⟨g, o + j, none⟩ := by unfold Addr.add; split <;> simp_all
theorem info37 : (Try.prog.info? 70).map (fun i => (i.zero, i.size, i.bytes)) = some (some (.agg #[.slice none 0 0]), 1, 24) := by kernel_rfl
/-- one match is put behind a row -/
theorem put_run {w : World} {v u : Value} {cs : List Value} {ad : Addr} (ty : TypeId) (hv : RowM w v cs) (hu : w.cell? ad = some u) (h1 : u.oneCell' = true) (hl : cs.length ≤ 1000) :
    ∃ v' w', (Builtin.append_ #[35, 35] ty #[v, .slice (some ad) 1 1]).run Try.prog w = .ok v' w' ∧ RowM w' v' (cs ++ [u]) ∧ Fr w w' (fun q => v.ownBlock = some q) ∧ (∀ q, v'.ownBlock = some q → v.ownBlock = some q ∨ w.heap.size ≤ q) ∧ ∃ a c, v' = .slice (some a) (cs.length + 1) c := by
  obtain ⟨i0, hi, hz0, hz1, hz2⟩ := info_parts info37
  have hn : ∀ j x, ([u] : List Value)[j]? = some x → w.cell? (ad.add j) = some x := by
    intro j x hj
    match j, hj with
    | 0, hj =>
      rw [show ad.add 0 = ad by cases ad; unfold Addr.add; split <;> simp_all]
      rw [hu]; exact hj
  have hn1 : ∀ x ∈ ([u] : List Value), x.oneCell' = true := fun x hx => by rw [List.mem_singleton.1 hx]; exact h1
  have hge := fun n old => grownCap_ge w n old 70
  have hlm := fun n old => grownCap_le_maxLen w n old 70
  have fin : ∀ (old : Nat) (cl : List Value), cl = cs ++ [u] → RowM (w.drew.alloc (.cells (cl.toArray ++ Builtin.zeroCells (Value.agg #[.slice none 0 0]).cells (grownCap w (cs.length + 1) old 70 - (cs.length + 1))) 70)) (.slice (some ⟨w.heap.size, 0, none⟩) (cs.length + 1) (grownCap w (cs.length + 1) old 70)) (cs ++ [u]) := by
    intro old cl hcl
    have hg1 := hge (cs.length + 1) old
    have hg2 := hlm (cs.length + 1) old (by unfold maxLen; omega)
    have hln : (cs ++ [u]).length = cs.length + 1 := by simp
    refine .inr ⟨w.heap.size, 0, grownCap w (cs.length + 1) old 70, _, by rw [hln], Blk.new w.drew 70 _, by rw [hln]; exact hg1, hg2, .inr rfl, ?_, ?_⟩
    · rw [Array.size_append, size_zeroCells, hcl, List.size_toArray, hln, show (Value.agg #[Value.slice none 0 0]).cells.size = 1 from rfl]; omega
    · rw [List.drop_zero, Array.toList_append, hcl, List.toList_toArray, List.take_left]
  have frn : ∀ (cur : Array Value) (P : Nat → Prop), Fr w (w.drew.alloc (.cells cur 70)) P := fun cur P => (fr_drew w P).al _
  rcases hv with ⟨rfl, rfl⟩ | ⟨g, o, cap, cur, rfl, hb, hc1, hc2, hc3, hc4, hc5⟩
  · have hr := run_append_nil (P := Try.prog) w 35 ty 70 i0 _ Try.underlying35 hi hz0 ad 1 1 [u] (by rw [hz1]; rfl) hn (by omega) (by omega) (by rw [hz2]; omega)
    exact ⟨_, _, hr, fin 0 [u] rfl, frn _ _, fun q hq => .inr (by
      have : w.heap.size = q := by simpa [Value.ownBlock] using hq
      omega), _, _, rfl⟩
  · by_cases hroom : cs.length + 1 ≤ cap
    · obtain rfl : o = 0 := by rcases hc3 with h | h <;> omega
      have hr := run_append_room (P := Try.prog) w 35 ty 70 i0 Try.underlying35 hi g cs.length cap cur hb ad 1 1 [u] (by rw [hz1]; rfl) hn hn1 hroom (by rw [hz1]; simp; omega)
      rw [hz1] at hr
      refine ⟨_, _, hr, .inr ⟨g, 0, cap, _, by simp, setRow_heap w g cur _ 70 _ hb, by simpa using hroom, hc2, .inr rfl, ?_, ?_⟩, ⟨rfl, rfl, rfl, by simp, fun k _ hk => setRow_other w g k _ (fun e => hk (by simp [Value.ownBlock, e]))⟩, fun q hq => .inl hq, _, _, rfl⟩
      · simp only [List.size_toArray, List.length_append, List.length_take, List.length_drop, Array.length_toList, List.length_cons, List.length_nil]
        omega
      · rw [List.drop_zero, List.toList_toArray]
        have hcl : cs.length ≤ cur.toList.length := by have := Array.length_toList (xs := cur); omega
        have htl : (cur.toList.take cs.length ++ [u]).length = cs.length + 1 := by rw [List.length_append, List.length_take]; simp; omega
        rw [Nat.mul_one, List.take_append_of_le_length (by rw [htl]; simp), List.take_of_length_le (by rw [htl]; simp)]
        rw [List.drop_zero] at hc5
        rw [hc5]
    · have hr := run_append_grow (P := Try.prog) w 35 ty 70 i0 _ Try.underlying35 hi hz0 ⟨g, o, none⟩ cs.length cap cs (by rw [hz1, Nat.mul_one]) (fun j x hj => by
          rw [addr_add, hb.cell, ← Array.getElem?_toList]
          have hjl : j < cs.length := (List.getElem?_eq_some_iff.1 hj).1
          have : ((cur.toList.drop o).take cs.length)[j]? = cs[j]? := by rw [hc5]
          rw [List.getElem?_take, if_pos hjl, List.getElem?_drop] at this
          rw [this]; exact hj) ad 1 1 [u] (by rw [hz1]; rfl) hn (by omega) (by omega) (by rw [hz2]; exact growslice_fits (by omega) (by omega))
      refine ⟨_, _, hr, ?_, frn _ _, fun q hq => .inr (by
        have : w.heap.size = q := by simpa [Value.ownBlock] using hq
        omega), _, _, rfl⟩
      have := fin cap (cs ++ [u]) rfl
      rw [show (cs ++ [u]).toArray = cs.toArray ++ [u].toArray by simp] at this
      exact this
/-- matches at a row's cells -/
def El (w : World) (Bk : Nat → Prop) (u : Value) (xs : List Int) : Prop := (u = .slice none 0 0 ∧ xs = []) ∨ ∃ g c cur, u = .slice (some ⟨g, 0, none⟩) xs.length c ∧ Blk w g 3 cur ∧ Bk g ∧ cur.toList.take xs.length = xs.map (Value.int .i64)
theorem Blk.ty {w : World} {g : Nat} {t t' : TypeId} {cs cs' : Array Value} (h : Blk w g t cs) (h' : Blk w g t' cs') : t = t' := by
  have := h.symm.trans h'
  simp at this
  exact this.2
theorem El.fr {w w' : World} {Bk P : Nat → Prop} {u : Value} {xs : List Int} (h : El w Bk u xs) (f : Fr w w' P) (hP : ∀ q cur, Bk q → Blk w q 3 cur → ¬ P q) : El w' Bk u xs := by
  rcases h with h | ⟨g, c, cur, e, hb, hB, r⟩
  · exact .inl h
  · exact .inr ⟨g, c, cur, e, hb.fr f (hP g cur hB hb), hB, r⟩
theorem El.mono {w : World} {Bk Bk' : Nat → Prop} {u : Value} {xs : List Int} (h : El w Bk u xs) (hB : ∀ q, Bk q → Bk' q) : El w Bk' u xs := by
  rcases h with h | ⟨g, c, cur, e, hb, hg, r⟩
  · exact .inl h
  · exact .inr ⟨g, c, cur, e, hb, hB g hg, r⟩
theorem El.one {w : World} {Bk : Nat → Prop} {u : Value} {xs : List Int} (h : El w Bk u xs) : u.oneCell' = true := by
  rcases h with ⟨rfl, _⟩ | ⟨g, c, cur, rfl, _⟩ <;> rfl
theorem El.nums {w : World} {Bk : Nat → Prop} {u : Value} {xs : List Int} (h : El w Bk u xs) : ∃ a c, u = .slice a xs.length c ∧ Nums w a xs := by
  rcases h with ⟨rfl, rfl⟩ | ⟨g, c, cur, rfl, hb, _, r⟩
  · exact ⟨none, 0, rfl, fun i hi => by simp at hi⟩
  · refine ⟨_, c, rfl, fun i hi => ⟨g, 0, rfl, hb.lt, ?_⟩⟩
    rw [Nat.zero_add, hb.cell, ← Array.getElem?_toList]
    have : (cur.toList.take xs.length)[i]? = (xs.map (Value.int .i64))[i]? := by rw [r]
    rw [List.getElem?_take, if_pos hi] at this
    rw [this]
    simp [hi]
theorem OwnN.el {w : World} {B : Nat} {v : Value} {xs : List Int} (h : OwnN w B v xs) : El w (fun q => B ≤ q ∧ q < w.heap.size) v xs := by
  rcases h.2 with ⟨e, e2⟩ | ⟨g, cap, cur, e, hb, hg, h1, h2, h3, h4⟩
  · exact .inl ⟨e, List.length_eq_zero_iff.1 e2⟩
  · exact .inr ⟨g, cap, cur, e, hg, ⟨hb, (Array.getElem?_eq_some_iff.1 hg).1⟩, by rw [Nat.mul_one] at h4; exact h4⟩
def Els (w : World) (Bk : Nat → Prop) (cs : List Value) (LL : List (List Int)) : Prop := cs.length = LL.length ∧ ∀ (i : Nat) (h : i < cs.length) (h2 : i < LL.length), El w Bk cs[i] LL[i]
section
variable {w w' : World} {Bk P : Nat → Prop} {cs : List Value} {LL : List (List Int)}
theorem Els.fr (h : Els w Bk cs LL) (f : Fr w w' P) (hP : ∀ q cur, Bk q → Blk w q 3 cur → ¬ P q) : Els w' Bk cs LL := ⟨h.1, fun i a b => (h.2 i a b).fr f hP⟩
theorem Els.mono {Bk' : Nat → Prop} (h : Els w Bk cs LL) (hB : ∀ q, Bk q → Bk' q) : Els w Bk' cs LL := ⟨h.1, fun i a b => (h.2 i a b).mono hB⟩
theorem Els.drop (h : Els w Bk cs LL) (n : Nat) : Els w Bk (cs.drop n) (LL.drop n) := ⟨by simp [h.1], fun i a b => by
  rw [List.getElem_drop, List.getElem_drop]
  exact h.2 (n + i) (by simp at a; omega) (by simp at b; omega)⟩
theorem Els.snoc {u : Value} {xs : List Int} (h : Els w Bk cs LL) (hu : El w Bk u xs) : Els w Bk (cs ++ [u]) (LL ++ [xs]) := ⟨by simp [h.1], fun i a b => by
  have := h.1
  rcases Nat.lt_or_ge i cs.length with hi | hi
  · rw [List.getElem_append_left hi, List.getElem_append_left (by omega)]
    exact h.2 i hi (by omega)
  · rw [List.getElem_append_right hi, List.getElem_append_right (by omega)]
    simpa using hu⟩
theorem Els.nil (w : World) (Bk : Nat → Prop) : Els w Bk [] [] := ⟨rfl, fun i a _ => by simp at a⟩
end
/-- a book in memory, in the blocks Bk -/
def BookAt (w : World) (Bk : Nat → Prop) (t : Nat) (base : Int) (LL : List (List Int)) : Prop :=
  ∃ v cs, Blk w t 124 #[.int .i64 base, v] ∧ RowM w v cs ∧ Els w Bk cs LL ∧ Bk t ∧ (∀ q, v.ownBlock = some q → Bk q) ∧ ∀ q, Bk q → q < w.heap.size
theorem BookAt.fr {w w' : World} {Bk P : Nat → Prop} {t : Nat} {base : Int} {LL : List (List Int)} (h : BookAt w Bk t base LL) (f : Fr w w' P) (hP : ∀ q, Bk q → ¬ P q) : BookAt w' Bk t base LL := by
  obtain ⟨v, cs, k, r, e, ht, hv, hl⟩ := h
  exact ⟨v, cs, k.fr f (hP t ht), r.fr f (fun q hq => hP q (hv q hq)), e.fr f (fun q _ hq _ => hP q hq), ht, hv, fun q hq => Nat.lt_of_lt_of_le (hl q hq) f.size⟩
theorem BookAt.next {w w' : World} {Bk : Nat → Prop} {t : Nat} {base : Int} {LL : List (List Int)} (h : BookAt w Bk t base LL) (hb : Below w.heap.size w w') : BookAt w' Bk t base LL := h.fr (Fr.of_below hb (fun _ => False)) (fun _ _ h => h)
end Go.Proofs.Ytggjpallbapcmaa.Bk
/-
  The book: copied 27, New 8, Base 22, End 23.
-/
namespace Go.Proofs.Ytggjpallbapcmaa.Bk
open Go.RowKit
/-- what copied leaves -/
def Cpd (w : World) (xs : List Int) (e : Ending) (w' : World) : Prop := ∃ u, e = .returned (.agg #[u]) ∧ OwnN w' w.heap.size u xs ∧ Below w.heap.size w w'
theorem OwnN.drop {w : World} {B B' : Nat} {u : Value} {xs : List Int} (h : OwnN w B u xs) (hB : B' ≤ B) : OwnN w B' u xs := by
  refine ⟨h.1, ?_⟩
  rcases h.2 with hn | ⟨g, cap, cur, e, hb, r⟩
  · exact .inl hn
  · exact .inr ⟨g, cap, cur, e, Nat.le_trans hB hb, r⟩
theorem OwnN.fr {w w' : World} {B : Nat} {u : Value} {xs : List Int} {P : Nat → Prop} (h : OwnN w B u xs) (f : Fr w w' P) (hP : ∀ q, u.ownBlock = some q → ¬ P q) : OwnN w' B u xs := Fr.own h f hP
theorem OwnN.ge {w : World} {B : Nat} {u : Value} {xs : List Int} (h : OwnN w B u xs) : ∀ q, u.ownBlock = some q → B ≤ q ∧ q < w.heap.size := fun q hq => World.ownsRow.lt h q hq
set_option maxHeartbeats 2000000 in
set_option maxRecDepth 100000 in
theorem copied_any {w : World} {a : Option Addr} {xs : List Int} (c : Nat) (h : Nums w a xs) (hl : xs.length ≤ 1000) : Calls Try.prog 65 #[.agg #[.slice a xs.length c]] w (Cpd w xs) := by
  have KA0 := Blk.new w 70 #[.slice a xs.length c]
  have B0 := (Below.refl w.heap.size w).alloc (Nat.le_refl _) (.cells #[.slice a xs.length c] 70)
  have KZ1 := Blk.new (w.alloc (.cells #[.slice a xs.length c] 70)) 70 #[.slice none 0 0]
  have B1 := B0.alloc (by simp) (.cells #[.slice none 0 0] 70)
  have hz : (w.alloc (.cells #[.slice a xs.length c] 70)).heap.size = w.heap.size + 1 := by simp
  rw [hz] at KZ1
  have HZ := Lib.hid KZ1
  have HB := Lib.hid B1
  have HC := Lib.hid (clone_any c (h.next (B1.mono (Nat.le_refl _))) hl)
  clear KA0 B0 KZ1 B1 hz h
  generalize hn : xs.length = n at *
  clear hn
  have HF : Hid (∀ e w', Cpd w xs e w' ↔ Cpd w xs e w') := Lib.hid (fun _ _ => Iff.rfl)
  go_enter Try.func65, Try.ntmps65
  go_wp2_with fail
  refine HC.out.mono ?_
  rintro e w3 ⟨u, rfl, ho, b3⟩
  have KZ := HZ.out.below b3 HZ.out.lt
  have B3 := Lib.hid (HB.out.trans (b3.mono HB.out.size))
  have hs : w.heap.size + 2 ≤ ((w.alloc (.cells #[.slice a n c] 70)).alloc (.cells #[.slice none 0 0] 70)).heap.size := by simp
  have OU := Lib.hid (ho.drop hs)
  obtain ⟨a', c', rfl, -⟩ := ho.nums
  clear b3 HZ HB ho hs HC
  have PZ := Lib.hid KZ
  have z0 : w3.cell? ⟨w.heap.size + 1, 0, none⟩ = some (.slice none 0 0) := KZ.cell 0
  have g0 : w3.frozen? ⟨w.heap.size + 1, 0, none⟩ = false := KZ.free 0
  clear KZ
  generalize xs.length = m at *
  go_wp2_with fail
  have KE := PZ.out.set 0 (.slice a' m c')
  have BE := B3.out.setCell (p := ⟨w.heap.size + 1, 0, none⟩) (Nat.le_succ _) (.slice a' m c')
  have OE := (OU.out.fr (fr_set w3 (w.heap.size + 1) 0 (.slice a' m c')) (fun q hq e => by have := (OU.out.ge q hq).1; omega)).drop (B' := w.heap.size) (by omega)
  generalize (w3.setCell _ _) = w5 at *
  have y0 : w5.cell? ⟨w.heap.size + 1, 0, none⟩ = some (.slice a' m c') := KE.cell 0
  refine bodyPost_ret (by simp [results, Try.results65, go_sem, y0]; try rfl) rfl ?_
  exact ⟨_, rfl, OE, BE⟩
theorem new_any (w : World) : Calls Try.prog 28 #[] w fun e w' => e = .returned (.pointer (some ⟨w.heap.size, 0, none⟩)) ∧ BookAt w' (fun q => q = w.heap.size) w.heap.size 0 [] ∧ Below w.heap.size w w' := by
  have K := Lib.hid (Blk.new w 124 #[.int .i64 0, .slice none 0 0])
  go_enter Try.func28, Try.ntmps28
  go_wp2_with fail
  go_ret
  exact ⟨rfl, ⟨_, [], K.out, .inl ⟨rfl, rfl⟩, Els.nil _ _, rfl, fun q hq => by simp [Value.ownBlock] at hq, fun q hq => by rw [hq]; simp⟩, (Below.refl _ w).alloc (Nat.le_refl _) _⟩
theorem end_nil (w : World) : Calls Try.prog 64 #[.pointer none] w fun e w' => e = .returned (.int .i64 0) ∧ w = w' := by
  go_enter Try.func64, Try.ntmps64
  go_wp2_with fail
  go_ret
  exact ⟨rfl, rfl⟩
theorem end_any {w : World} {Bk : Nat → Prop} {t : Nat} {base : Int} {LL : List (List Int)} (h : BookAt w Bk t base LL) (h0 : 0 ≤ base) (h1 : base ≤ 549755813888) (h2 : LL.length ≤ 1000) : Calls Try.prog 64 #[.pointer (some ⟨t, 0, none⟩)] w fun e w' => e = .returned (.int .i64 (base + LL.length)) ∧ Below w.heap.size w w' := by
  obtain ⟨v, cs, k, r, e, -⟩ := h
  have c0 : w.cell? ⟨t, 0, none⟩ = some (.int .i64 base) := k.cell 0
  have c1 : w.cell? ⟨t, 1, none⟩ = some v := k.cell 1
  obtain ⟨a, c, rfl, -, -⟩ := r.form
  have hl := e.1
  rw [← hl] at h2 ⊢
  clear e hl k
  generalize cs.length = n at *
  have h2I : (n : Int) ≤ 1000 := by omega
  have W0 : ¬ (9223372036854775807 < base + n) := by omega
  have BW := Lib.hid (Below.refl w.heap.size w)
  go_enter Try.func64, Try.ntmps64
  go_wp2_with fail
  go_quiet (fail)
  go_wp2_with fail
  go_ret
  exact ⟨rfl, below_drewN BW.out _⟩
end Go.Proofs.Ytggjpallbapcmaa.Bk
