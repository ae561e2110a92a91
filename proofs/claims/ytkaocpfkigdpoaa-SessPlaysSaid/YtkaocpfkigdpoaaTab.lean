/-
  SESSIONS IN MEMORY; A TABLE; what a call leaves alone; New, the search.
-/
import Derived.Test.YtkaocpfkigdpoaaPla
import Derived.Test.YtkaocpfkigdpoaaBMeths
import Derived.WalkKit
import Derived.Handy
import Derived.Deep.AppendLies
import Derived.Deep.RegionLaw
import Derived.Laws.OwnMore
import Derived.Lib.QuietBelow
import Derived.Deep.QuietTactic
import Derived.BigQuiet
import Derived.Deep.LoopGhost
import Derived.RegionTactic
import Derived.LoopTactic
namespace Go.Proofs.Ytkaocpfkigdpoaa
open Go.RowKit
theorem ret_b {a b : Bool} (h : a = b) : Ending.returned (.bool a) = .returned (.bool b) := by rw [h]
theorem ret_i {a b : Int} (h : a = b) : Ending.returned (.int .i64 a) = .returned (.int .i64 b) := by rw [h]
/-- a block that is known whole -/
def Blk (w : World) (g : Nat) (t : TypeId) (cs : Array Value) : Prop := w.heap[g]? = some (.cells cs t (0, 0))
section
variable {w w' : World} {g : Nat} {t : TypeId} {cs : Array Value}
theorem Blk.lt (h : Blk w g t cs) : g < w.heap.size := (Array.getElem?_eq_some_iff.1 h).1
theorem Blk.cell (h : Blk w g t cs) (i : Nat) : w.cell? ⟨g, i, none⟩ = cs[i]? := cell_of_row w g i cs t (0, 0) h
theorem Blk.free (h : Blk w g t cs) (i : Nat) : w.frozen? ⟨g, i, none⟩ = false := by unfold Blk at h; simp [World.frozen?, h]
theorem Blk.new (w : World) (t : TypeId) (cs : Array Value) : Blk (w.alloc (.cells cs t)) w.heap.size t cs := heap_alloc_new w _
theorem Blk.below {B : Nat} (h : Blk w g t cs) (hb : Below B w w') (hg : g < B) : Blk w' g t cs := (hb.block g hg).trans h
theorem Blk.next (h : Blk w g t cs) (hb : Below w.heap.size w w') : Blk w' g t cs := h.below hb h.lt
theorem Blk.set (h : Blk w g t cs) (i : Nat) (u : Value) : Blk (w.setCell ⟨g, i, none⟩ u) g t (cs.setIfInBounds i u) := by
  unfold Blk at h ⊢
  simp [World.setCell, Array.getElem?_modify, h]
end
theorem below_drewN {B : Nat} {w w' : World} (h : Below B w w') (n : Nat) : Below B w (w'.drewN n) := ⟨h.os, h.tape, h.output, h.size, h.block⟩
/-- blocks off P are as they were -/
structure Fr (w w' : World) (P : Nat → Prop) : Prop where
  os : w'.os = w.os
  tape : w'.tape = w.tape
  output : w'.output = w.output
  size : w.heap.size ≤ w'.heap.size
  block : ∀ q, q < w.heap.size → ¬ P q → w'.heap[q]? = w.heap[q]?
theorem Fr.refl (w : World) (P : Nat → Prop) : Fr w w P := ⟨rfl, rfl, rfl, Nat.le_refl _, fun _ _ _ => rfl⟩
theorem Fr.trans {a b c : World} {P Q R : Nat → Prop} (h : Fr a b P) (k : Fr b c Q) (hP : ∀ q, q < a.heap.size → P q → R q) (hQ : ∀ q, q < a.heap.size → Q q → R q) : Fr a c R :=
  ⟨k.os.trans h.os, k.tape.trans h.tape, k.output.trans h.output, Nat.le_trans h.size k.size, fun q hq hR => (k.block q (Nat.lt_of_lt_of_le hq h.size) (fun hh => hR (hQ q hq hh))).trans (h.block q hq (fun hh => hR (hP q hq hh)))⟩
theorem Fr.of_grown {w w' : World} {r : Option Nat} (h : w.grownBy w' r) : Fr w w' (fun q => some q = r) := ⟨h.os, h.tape, h.output, h.size, fun q hq hne => h.block q hq hne⟩
theorem Fr.of_below {w w' : World} (h : Below w.heap.size w w') (P : Nat → Prop) : Fr w w' P := ⟨h.os, h.tape, h.output, h.size, fun q hq _ => h.block q hq⟩
theorem Fr.mono {w w' : World} {P Q : Nat → Prop} (h : Fr w w' P) (hPQ : ∀ q, q < w.heap.size → P q → Q q) : Fr w w' Q := ⟨h.os, h.tape, h.output, h.size, fun q hq hn => h.block q hq (fun hh => hn (hPQ q hq hh))⟩
theorem Fr.below {w w' : World} {B : Nat} {P : Nat → Prop} (h : Fr w w' P) (hP : ∀ q, P q → B ≤ q) (hB : B ≤ w.heap.size) : Below B w w' := ⟨h.os, h.tape, h.output, h.size, fun q hq => h.block q (Nat.lt_of_lt_of_le hq hB) (fun hh => by have := hP q hh; omega)⟩
theorem fr_set (w : World) (g i : Nat) (u : Value) : Fr w (w.setCell ⟨g, i, none⟩ u) (fun q => q = g) :=
  ⟨rfl, rfl, rfl, by simp [World.setCell], fun q _ hne => Below.heap_setCell _ _ _ _ hne⟩
theorem fr_drew (w : World) (P : Nat → Prop) : Fr w w.drew P := ⟨rfl, rfl, rfl, Nat.le_refl _, fun _ _ _ => rfl⟩
theorem Fr.on {w w' w2 : World} {P : Nat → Prop} (h : Fr w w' P) (k : Fr w' w2 P) : Fr w w2 P := h.trans k (fun _ _ h => h) (fun _ _ h => h)
theorem Fr.set {w w' : World} {P : Nat → Prop} (h : Fr w w' P) (g i : Nat) (u : Value) (hg : P g ∨ w.heap.size ≤ g) : Fr w (w'.setCell ⟨g, i, none⟩ u) P :=
  h.trans (fr_set w' g i u) (fun _ _ h => h) (fun q hq e => by subst e; rcases hg with h | h; exact h; omega)
theorem Fr.al {w w' : World} {P : Nat → Prop} (h : Fr w w' P) (o : Obj) : Fr w (w'.alloc o) P :=
  h.on (Fr.of_below ((Below.refl w'.heap.size w').alloc (Nat.le_refl _) o) P)
theorem Blk.fr {w w' : World} {g : Nat} {t : TypeId} {cs : Array Value} {P : Nat → Prop} (h : Blk w g t cs) (hf : Fr w w' P) (hP : ¬ P g) : Blk w' g t cs := (hf.block g h.lt hP).trans h
theorem Fr.own {w w' : World} {P : Nat → Prop} {B n size : Nat} {e : TypeId} {v : Value} {xs : List Value} (h : w.ownsRow B e size v n xs) (f : Fr w w' P) (hP : ∀ q, v.ownBlock = some q → ¬ P q) : w'.ownsRow B e size v n xs := by
  refine ⟨h.1, ?_⟩
  rcases h.2 with hn | ⟨g, cap, cur, rfl, hb, hgg, rest⟩
  · exact .inl hn
  · refine .inr ⟨g, cap, cur, rfl, hb, ?_, rest⟩
    rw [f.block g (Array.getElem?_eq_some_iff.1 hgg).1 (hP g rfl)]
    exact hgg
/-- cells of sessions -/
def enc (x : Sn) : List Value := [.int .i64 x.1, .int .i64 x.2]
def cells (l : List Sn) : List Value := l.flatMap enc
theorem cells_cons (x : Sn) (l : List Sn) : cells (x :: l) = enc x ++ cells l := rfl
theorem cells_append (l r : List Sn) : cells (l ++ r) = cells l ++ cells r := by unfold cells; rw [List.flatMap_append]
theorem cells_len (l : List Sn) : (cells l).length = l.length * 2 := by
  induction l with
  | nil => rfl
  | cons x l ih => rw [cells_cons, List.length_append, ih, List.length_cons]; show 2 + _ = _; omega
theorem cells_get : ∀ {l : List Sn} {k : Nat} (h : k < l.length), (cells l)[k * 2]? = some (.int .i64 l[k].1) ∧ (cells l)[k * 2 + 1]? = some (.int .i64 l[k].2)
  | x :: l, 0, _ => ⟨rfl, rfl⟩
  | x :: l, k + 1, h => by
    have ih := cells_get (l := l) (k := k) (by simpa using h)
    rw [cells_cons]
    have e : (enc x).length = 2 := rfl
    rw [List.getElem?_append_right (by omega), List.getElem?_append_right (by omega), e, show (k + 1) * 2 - 2 = k * 2 by omega, show (k + 1) * 2 + 1 - 2 = k * 2 + 1 by omega]
    exact ih
theorem cells_set : ∀ (l : List Sn) (k : Nat) (h : k < l.length) (s : Int), (cells l).set (k * 2 + 1) (.int .i64 s) = cells (l.set k (l[k].1, s))
  | y :: l, 0, _, s => rfl
  | y :: l, k + 1, h, s => by
    have ih := cells_set l k (by simpa using h) s
    rw [List.set_cons_succ, cells_cons, cells_cons]
    have e : (enc y).length = 2 := rfl
    rw [List.set_append_right _ _ (by omega), e, show (k + 1) * 2 + 1 - 2 = k * 2 + 1 by omega, ih]
    rfl
theorem cells_take (l : List Sn) (k : Nat) : (cells l).take (k * 2) = cells (l.take k) := by
  induction l generalizing k with
  | nil => simp [cells]
  | cons x l ih =>
    cases k with
    | zero => simp [cells]
    | succ k => rw [cells_cons, List.take_succ_cons, cells_cons, ← ih k, List.take_append, show (enc x).length = 2 from rfl, show (k + 1) * 2 - 2 = k * 2 by omega, List.take_of_length_le (by show 2 ≤ _; omega)]
theorem cells_drop (l : List Sn) (k : Nat) : (cells l).drop (k * 2) = cells (l.drop k) := by
  induction l generalizing k with
  | nil => simp [cells]
  | cons x l ih =>
    cases k with
    | zero => simp
    | succ k => rw [cells_cons, List.drop_succ_cons, ← ih k, List.drop_append, show (enc x).length = 2 from rfl, show (k + 1) * 2 - 2 = k * 2 by omega, List.drop_of_length_le (by show 2 ≤ _; omega), List.nil_append]
theorem cells_one (l : List Sn) : ∀ u ∈ cells l, u.oneCell' = true := by
  intro u hu
  unfold cells at hu
  obtain ⟨x, _, hx⟩ := List.mem_flatMap.1 hu
  unfold enc at hx
  rcases List.mem_cons.1 hx with rfl | hx
  · rfl
  · rcases List.mem_cons.1 hx with rfl | hx
    · rfl
    · cases hx
/-- a slice of sessions of the program's own, behind block t -/
def Own (w : World) (B : Nat) (v : Value) (L : List Sn) : Prop := w.ownsRow B 62 2 v L.length (cells L)
theorem Own.form {w : World} {B : Nat} {v : Value} {L : List Sn} (h : Own w B v L) : ∃ a c, v = .slice a L.length c ∧ L.length ≤ c ∧ (c : Int) ≤ 9223372036854775807 := by
  rcases h.2 with ⟨rfl, e⟩ | ⟨g, cap, cur, rfl, _, _, hc, hm, _⟩
  · exact ⟨none, 0, by rw [e], by omega, by omega⟩
  · unfold maxLen at hm; exact ⟨_, _, rfl, hc, by omega⟩
theorem Own.at_ {w : World} {B : Nat} {v : Value} {L : List Sn} (h : Own w B v L) {k : Nat} (hk : k < L.length) : ∃ g c, v = .slice (some ⟨g, 0, none⟩) L.length c ∧ B ≤ g ∧ g < w.heap.size ∧
    w.cell? ⟨g, k * 2, none⟩ = some (.int .i64 L[k].1) ∧ w.cell? ⟨g, k * 2 + 1, none⟩ = some (.int .i64 L[k].2) ∧ (∀ j, w.frozen? ⟨g, j, none⟩ = false) := by
  have h0 := h
  unfold Own at h0
  rcases h.2 with ⟨rfl, e⟩ | ⟨g, cap, cur, rfl, hb, hg, _⟩
  · omega
  · obtain ⟨c1, c2⟩ := cells_get hk
    exact ⟨g, cap, rfl, hb, (Array.getElem?_eq_some_iff.1 hg).1, by rw [h0.cellAt _ (by omega), c1], by rw [h0.cellAt _ (by omega), c2], fun j => World.ownsRow.frozenAt h0 j⟩
theorem Own.fr {w w' : World} {P : Nat → Prop} {B : Nat} {v : Value} {L : List Sn} (h : Own w B v L) (f : Fr w w' P) (hP : ∀ q, v.ownBlock = some q → ¬ P q) : Own w' B v L := Fr.own h f hP
theorem Own.next {w w' : World} {B : Nat} {v : Value} {L : List Sn} (h : Own w B v L) (hb : Below w.heap.size w w') : Own w' B v L := h.fr (Fr.of_below hb (fun _ => False)) (fun _ _ h => h)
/-- a table -/
structure Tab (w : World) (t : Nat) (v : Value) (L : List Sn) : Prop where
  blk : Blk w t 54 #[v]
  own : Own w (t + 1) v L
theorem Tab.next {w w' : World} {t : Nat} {v : Value} {L : List Sn} (h : Tab w t v L) (hb : Below w.heap.size w w') : Tab w' t v L := ⟨h.blk.next hb, h.own.next hb⟩
theorem Tab.fr {w w' : World} {P : Nat → Prop} {t : Nat} {v : Value} {L : List Sn} (h : Tab w t v L) (f : Fr w w' P) (h0 : ¬ P t) (hP : ∀ q, v.ownBlock = some q → ¬ P q) : Tab w' t v L := ⟨h.blk.fr f h0, h.own.fr f hP⟩
theorem Tab.cell {w : World} {t : Nat} {v : Value} {L : List Sn} (h : Tab w t v L) : w.cell? ⟨t, 0, none⟩ = some v := h.blk.cell 0
/-- what a table's call may touch -/
def Foot (t : Nat) (v : Value) (q : Nat) : Prop := q = t ∨ v.ownBlock = some q
theorem new_any (w : World) : Calls Try.prog 9 #[] w fun e w' => e = .returned (.pointer (some ⟨w.heap.size, 0, none⟩)) ∧ Tab w' w.heap.size (.slice none 0 0) [] ∧ Below w.heap.size w w' := by
  have K := Lib.hid (Blk.new w 54 #[.slice none 0 0])
  go_enter Try.func9, Try.ntmps9
  go_wp2_with fail
  go_ret
  exact ⟨rfl, ⟨K.out, World.ownsRow_nil _ _ _ _⟩, (Below.refl _ w).alloc (Nat.le_refl _) _⟩
set_option maxHeartbeats 2000000 in
theorem clo_any {w : World} {bt bi t : Nat} {v : Value} {L : List Sn} {id : Int} {k : Nat} (hk : k < L.length) (h : Tab w t v L) (_hl : L.length ≤ 140737488355328) (h1 : w.cell? ⟨bt, 0, none⟩ = some (.pointer (some ⟨t, 0, none⟩))) (h2 : w.cell? ⟨bi, 0, none⟩ = some (.int .i64 id)) :
    Calls Try.prog 40 #[.int .i64 k, .pointer (some ⟨bt, 0, none⟩), .pointer (some ⟨bi, 0, none⟩)] w fun e w' => e = .returned (.bool (decide (id ≤ L[k].1))) ∧ ∃ q, w' = w.drewN q := by
  have c0 := h.cell
  obtain ⟨g, c, rfl, -, -, c1, -, -⟩ := h.own.at_ hk
  have hkI : (k : Int) < (L.length : Int) := by omega
  clear h
  generalize L[k].1 = x at *
  generalize L.length = n at *
  go_enter Try.func40, Try.ntmps40
  go_wp2_with fail
  go_region
  all_goals go_wp2_with fail
  all_goals go_ret
  all_goals exact ⟨by first | rfl | simp, 1, rfl⟩
set_option maxHeartbeats 4000000 in
set_option maxRecDepth 1000000 in
theorem search_any {w : World} {bt bi t : Nat} {v : Value} {L : List Sn} {id : Int} (hs : Srt L) (h : Tab w t v L) (hl : L.length ≤ 140737488355328) (h1 : w.cell? ⟨bt, 0, none⟩ = some (.pointer (some ⟨t, 0, none⟩))) (h2 : w.cell? ⟨bi, 0, none⟩ = some (.int .i64 id)) :
    Calls Try.prog 39 #[.int .i64 L.length, .func (.func 40) #[] #[.pointer (some ⟨bt, 0, none⟩), .pointer (some ⟨bi, 0, none⟩)]] w fun e w' => e = .returned (.int .i64 (pos id L)) ∧ ∃ q, w' = w.drewN q := by
  have HF := Lib.hid (fun (q k : Nat) (hk : k < L.length) => clo_any (w := w.drewN q) (id := id) hk (h.next (below_drewN (Below.refl _ w) q)) hl h1 h2)
  have HL := Lib.hid (fun (k : Nat) (hk : k < L.length) (hp : k < pos id L) => pos_lo hk hp)
  have HU := Lib.hid (fun (m : Nat) (hm : m ≤ L.length) (a : ∀ t (h : t < L.length), t < m → L[t].1 < id) (b : ∀ t (h : t < L.length), m ≤ t → id ≤ L[t].1) => pos_uniq hs hm a b)
  have HM := Lib.hid (fun (i j : Nat) (hi : i < L.length) (hj : j < L.length) (hij : i < j) => List.pairwise_iff_getElem.1 hs i j hi hj hij)
  clear h h1 h2 hs
  have hl' : (L.length : Int) ≤ 140737488355328 := by omega
  generalize pos id L = r at *
  have HN : Hid (∃ n, n = L.length) := Lib.hid ⟨_, rfl⟩
  go_enter Try.func39, Try.ntmps39
  go_wp2_with fail
  go_loopg [5, 6] L.length (fun kx s5 s6 wr => ∃ (lo hi q : Nat), s5 = .int .i64 lo ∧ s6 = .int .i64 hi ∧ lo ≤ hi ∧ hi ≤ L.length ∧ hi - lo ≤ kx ∧ wr = w.drewN q ∧
    Hid ((∀ t (h : t < L.length), t < lo → L[t].1 < id) ∧ (∀ t (h : t < L.length), hi ≤ t → id ≤ L[t].1)))
  case atStart => exact ⟨0, L.length, 0, rfl, rfl, Nat.zero_le _, Nat.le_refl _, by omega, rfl, Lib.hid ⟨fun t _ ht => absurd ht (Nat.not_lt_zero _), fun t h1 h2 => by omega⟩⟩
  case round =>
    obtain ⟨lo, hi, q, rfl, rfl, hlh, hin, hg, rfl, I⟩ := hrel
    by_cases hlt : lo < hi
    · have hk : (lo + hi) / 2 < L.length := by omega
      have hc := HF.out q ((lo + hi) / 2) hk
      rw [show (((lo + hi) / 2 : Nat) : Int) = ((lo : Int) + (hi : Int)) / 2 by omega] at hc
      by_cases hp : id ≤ (L[(lo + hi) / 2]'hk).1
      · have I2 : Hid ((∀ t (h : t < L.length), t < lo → L[t].1 < id) ∧ (∀ t (h : t < L.length), (lo + hi) / 2 ≤ t → id ≤ L[t].1)) := Lib.hid ⟨I.out.1, fun t ht hle => by
          rcases Nat.eq_or_lt_of_le hle with e | hlt2
          · subst e; exact hp
          · have := HM.out ((lo + hi) / 2) t hk ht hlt2
            omega⟩
        rw [decide_eq_true hp] at hc
        clear hp
        have HC := Lib.hid hc
        clear hc
        go_wp2_with (refine HC.out.mono ?_; rintro e w' ⟨rfl, nq, rfl⟩)
        go_roundg ((lo + hi) / 2 - lo)
        case measure => omega
        case rel => exact ⟨lo, (lo + hi) / 2, q + nq, rfl, by rw [show ((lo : Int) + (hi : Int)) / 2 = (((lo + hi) / 2 : Nat) : Int) by omega], by omega, by omega, Nat.le_refl _, rfl, I2⟩
      · have I2 : Hid ((∀ t (h : t < L.length), t < (lo + hi) / 2 + 1 → L[t].1 < id) ∧ (∀ t (h : t < L.length), hi ≤ t → id ≤ L[t].1)) := Lib.hid ⟨fun t ht hlt2 => by
          by_cases e : t = (lo + hi) / 2
          · subst e; omega
          · have := HM.out t ((lo + hi) / 2) ht hk (by omega)
            omega, I.out.2⟩
        rw [decide_eq_false hp] at hc
        clear hp
        have HC := Lib.hid hc
        clear hc
        go_wp2_with (refine HC.out.mono ?_; rintro e w' ⟨rfl, nq, rfl⟩)
        go_roundg (hi - ((lo + hi) / 2 + 1))
        case measure => omega
        case rel => exact ⟨(lo + hi) / 2 + 1, hi, q + nq, by rw [show ((lo : Int) + (hi : Int)) / 2 + 1 = (((lo + hi) / 2 + 1 : Nat) : Int) by omega], rfl, by omega, hin, Nat.le_refl _, rfl, I2⟩
    · obtain rfl : hi = lo := by omega
      have e := HU.out hi hin I.out.1 I.out.2
      subst e
      go_wp2_with fail
      go_ret
      exact ⟨rfl, q, rfl⟩
end Go.Proofs.Ytkaocpfkigdpoaa
