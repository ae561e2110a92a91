/-
  WHAT THE ROWS REST ON, part 7: Tem Tcf Tec Trl.
-/
import Derived.Deep.QuietTactic
import Derived.BigQuiet
import Derived.LoopTactic
import Derived.Test.YtkajadkmdcalmaaGreatDoorPart6
/-
  PARTS IN MEMORY: conditions, a part's block; guard, timeless, bare.
-/
namespace Go.Proofs.YtkajadkmdcalmaaGreatDoor
open Go.RowKit
/-- conditions in memory -/
def Cnds (w : World) (a : Option Addr) (L : List Cnd) : Prop := ∀ p (h : p < L.length), ∃ g o, a = some ⟨g, o, none⟩ ∧ g < w.heap.size ∧
  w.cell? ⟨g, o + p * 6, none⟩ = some (.string L[p].nm) ∧ w.cell? ⟨g, o + p * 6 + 1, none⟩ = some (.int .i64 L[p].op) ∧ w.cell? ⟨g, o + p * 6 + 2, none⟩ = some (.int .i64 L[p].v.k) ∧ w.cell? ⟨g, o + p * 6 + 3, none⟩ = some (.int .i64 L[p].v.n) ∧ w.cell? ⟨g, o + p * 6 + 4, none⟩ = some (.float .f64 L[p].v.f) ∧ w.cell? ⟨g, o + p * 6 + 5, none⟩ = some (.string L[p].v.s)
theorem Cnds.below {w w' : World} {a : Option Addr} {L : List Cnd} (h : Cnds w a L) (hb : Below w.heap.size w w') : Cnds w' a L := fun p hp => by
  obtain ⟨g, o, e, hl, c0, c1, c2, c3, c4, c5⟩ := h p hp
  have q : ∀ {i : Nat} {v : Value}, w.cell? ⟨g, i, none⟩ = some v → w'.cell? ⟨g, i, none⟩ = some v := fun hc => by rw [hb.cell (p := ⟨g, _, none⟩) hl]; exact hc
  exact ⟨g, o, e, Nat.lt_of_lt_of_le hl hb.size, q c0, q c1, q c2, q c3, q c4, q c5⟩
/-- a row of values of one cell each -/
def Row (w : World) (a : Option Addr) (L : List Value) : Prop := ∀ p (h : p < L.length), ∃ g o, a = some ⟨g, o, none⟩ ∧ g < w.heap.size ∧ w.cell? ⟨g, o + p, none⟩ = some L[p]
theorem Row.below {w w' : World} {a : Option Addr} {L : List Value} (h : Row w a L) (hb : Below w.heap.size w w') : Row w' a L := fun p hp => by
  obtain ⟨g, o, e, hl, c⟩ := h p hp
  exact ⟨g, o, e, Nat.lt_of_lt_of_le hl hb.size, by rw [hb.cell (p := ⟨g, _, none⟩) hl]; exact c⟩
def ptr (g : Nat) : Value := .pointer (some ⟨g, 0, none⟩)
/-- where the parts of some numbers lie -/
def ptrs (Bs : List Nat) (ks : List Int) : List Value := ks.map fun k => ptr (Bs.getD k.toNat 0)
theorem ptrs_len (Bs : List Nat) (ks : List Int) : (ptrs Bs ks).length = ks.length := by simp [ptrs]
/-- the part of a node, in a block -/
structure PartOk (w : World) (Bs : List Nat) (n : Nd) (g : Nat) : Prop where
  ex : ∃ (ca : Option Addr) (cc : Nat) (ka : Option Addr) (kc : Nat) (pa : Option Addr) (pc : Nat),
    Blk w g 92 #[.int .i64 n.op, .string n.kind, .slice ca n.conds.length cc, .int .i64 n.lo, .int .i64 n.hi, .slice ka n.kids.length kc, .slice pa n.kids.length pc] ∧ Cnds w ca n.conds ∧ Row w pa (ptrs Bs n.kids)
theorem PartOk.lt {w : World} {Bs : List Nat} {n : Nd} {g : Nat} (h : PartOk w Bs n g) : g < w.heap.size := by
  obtain ⟨ca, cc, ka, kc, pa, pc, hb, -⟩ := h.ex; exact hb.lt
theorem PartOk.below {w w' : World} {Bs : List Nat} {n : Nd} {g : Nat} (h : PartOk w Bs n g) (hb : Below w.heap.size w w') : PartOk w' Bs n g := by
  obtain ⟨ca, cc, ka, kc, pa, pc, h1, h2, h3⟩ := h.ex
  exact ⟨ca, cc, ka, kc, pa, pc, h1.below hb, h2.below hb, h3.below hb⟩
/-- the parts of the first nodes -/
structure Parts (w : World) (l : List Nd) (Bs : List Nat) : Prop where
  le : Bs.length ≤ l.length
  at_ : ∀ i (h : i < Bs.length), PartOk w Bs (l[i]'(by omega)) Bs[i]
theorem Parts.below {w w' : World} {l : List Nd} {Bs : List Nat} (h : Parts w l Bs) (hb : Below w.heap.size w w') : Parts w' l Bs := ⟨h.le, fun i hi => (h.at_ i hi).below hb⟩
set_option maxHeartbeats 1000000 in
theorem guard_any {w : World} {Bs : List Nat} {n : Nd} {g : Nat} (h : PartOk w Bs n g) :
    Calls Tryz.prog 58 #[ptr g] w fun e w' => e = .returned (.bool (n.op == 5)) ∧ w = w' := by
  obtain ⟨ca, cc, ka, kc, pa, pc, hb, -⟩ := h.ex
  have c0 : w.cell? ⟨g, 0, none⟩ = some (.int .i64 n.op) := hb.cell 0
  clear hb h
  generalize n.op = op at *
  unfold ptr
  by_cases h5 : op = 5
  · subst h5
    go_enter Tryz.func58, Tryz.ntmps58
    go_wp2_with fail
    go_ret
    exact ⟨rfl, rfl⟩
  · have e5 : (op == 5) = false := by simpa using h5
    go_enter Tryz.func58, Tryz.ntmps58
    go_wp2_with fail
    go_ret
    exact ⟨by simp [e5], rfl⟩
end Go.Proofs.YtkajadkmdcalmaaGreatDoor
/-
  slices.IndexFunc AND slices.ContainsFunc OVER PARTS, by the function that is asked: guard, empty, what is not empty.
-/
namespace Go.Proofs.YtkajadkmdcalmaaGreatDoor
open Go.RowKit
def firstAt (p : Nat → Bool) (n : Nat) : Int := (((List.range n).find? p).map Int.ofNat).getD (-1)
theorem firstAt_none {p : Nat → Bool} {n : Nat} (h : ∀ i < n, p i = false) : firstAt p n = -1 := by
  unfold firstAt
  rw [List.find?_eq_none.2 (fun x hx => by rw [h x (by simpa using hx)]; simp)]
  rfl
theorem firstAt_some {p : Nat → Bool} : ∀ {n j : Nat}, j < n → p j = true → (∀ i < j, p i = false) → firstAt p n = (j : Int)
  | 0, j, h, _, _ => by omega
  | n + 1, j, h, hj, hp => by
    unfold firstAt
    rw [List.range_succ, List.find?_append]
    by_cases e : j < n
    · have ih := firstAt_some e hj hp
      unfold firstAt at ih
      cases hc : (List.range n).find? p with
      | none => rw [hc] at ih; simp at ih
      | some x => rw [hc] at ih; simpa using ih
    · obtain rfl : j = n := by omega
      rw [List.find?_eq_none.2 (fun x hx => by rw [hp x (by simpa using hx)]; simp)]
      simp [List.find?, hj]
def someAt (p : Nat → Bool) (n : Nat) : Bool := (List.range n).any p
theorem someAt_first (p : Nat → Bool) (n : Nat) : (someAt p n = true ∧ 0 ≤ firstAt p n) ∨ (someAt p n = false ∧ firstAt p n = -1) := by
  unfold someAt firstAt
  cases h : (List.range n).find? p with
  | none =>
    right
    rw [List.find?_eq_none] at h
    refine ⟨?_, rfl⟩
    rw [List.any_eq_false]
    exact h
  | some x =>
    left
    refine ⟨?_, by simp⟩
    rw [List.any_eq_true]
    exact ⟨x, List.mem_of_find?_eq_some h, List.find?_some h⟩
theorem firstAt_range (p : Nat → Bool) (n : Nat) : -1 ≤ firstAt p n ∧ firstAt p n < n ∨ firstAt p n = -1 := by
  unfold firstAt
  cases h : (List.range n).find? p with
  | none => right; rfl
  | some x => left; have := List.mem_of_find?_eq_some h; simp at this; simp; omega
set_option maxHeartbeats 1000000 in
theorem index58 {w : World} {pa : Option Addr} {L : List Value} (pc : Nat) (hr : Row w pa L) (hn : L.length ≤ 1000000) (p : Nat → Bool)
    (H : ∀ j (h : j < L.length), Calls Tryz.prog 58 #[L[j]] w fun e w' => e = .returned (.bool (p j)) ∧ w = w') :
    Calls Tryz.prog 57 #[.slice pa L.length pc, .func (.func 58) #[] #[]] w fun e w' => e = .returned (.int .i64 (firstAt p L.length)) ∧ w = w' := by
  have HR := Lib.hid hr
  have HH := Lib.hid H
  obtain ⟨n, hN⟩ : ∃ n, n = L.length := ⟨_, rfl⟩
  have HN := Lib.hid hN
  have hnI : (n : Int) ≤ 1000000 := by omega
  rw [← hN]
  clear hr H hN hn
  go_enter Tryz.func57, Tryz.ntmps57
  go_wp2_with fail
  go_loop [8] (fun i => ∃ j : Nat, i = .int .i64 j ∧ j ≤ n ∧ Hid (∀ i < j, p i = false)) (fun i => n - (intOf i).toNat)
  case atStart => exact ⟨0, rfl, Nat.zero_le _, Lib.hid fun i hi => absurd hi (Nat.not_lt_zero i)⟩
  case round =>
    obtain ⟨j, rfl, hj, hp⟩ := hrel
    by_cases hjn : j < n
    · have hjL : j < L.length := by rw [← HN.out]; exact hjn
      have jI : (j : Int) < (n : Int) := by omega
      obtain ⟨g, o, rfl, hg, ck⟩ := HR.out j hjL
      have C := Lib.hid (HH.out j hjL)
      generalize L[j] = v at *
      cases hb : p j
      · have HB := Lib.hid hb
        rw [hb] at C
        clear hb
        go_wp2_with (go_at_call 58; refine C.out.mono ?_; rintro e w' ⟨rfl, rfl⟩)
        go_round
        case rel => exact ⟨j + 1, by go_num, by omega, Lib.hid fun i hi => by
          by_cases h : i < j
          · exact hp.out i h
          · rw [show i = j by omega]; exact HB.out⟩
        case measure => simp [intOf]; omega
      · have HB := Lib.hid hb
        rw [hb] at C
        clear hb
        go_wp2_with (go_at_call 58; refine C.out.mono ?_; rintro e w' ⟨rfl, rfl⟩)
        go_ret
        exact ⟨ret_int (firstAt_some hjn HB.out hp.out).symm, rfl⟩
    · obtain rfl : j = n := by omega
      have jI : ¬ (j : Int) < (j : Int) := by omega
      go_wp2_with fail
      go_ret
      exact ⟨ret_int (firstAt_none hp.out).symm, rfl⟩
set_option maxHeartbeats 1000000 in
theorem contains58 {w : World} {pa : Option Addr} {L : List Value} (pc : Nat) (hr : Row w pa L) (hn : L.length ≤ 1000000) (p : Nat → Bool)
    (H : ∀ j (h : j < L.length), Calls Tryz.prog 58 #[L[j]] w fun e w' => e = .returned (.bool (p j)) ∧ w = w') :
    Calls Tryz.prog 87 #[.slice pa L.length pc, .func (.func 58) #[] #[]] w fun e w' => e = .returned (.bool (someAt p L.length)) ∧ w = w' := by
  have S := Lib.hid (index58 pc hr hn p H)
  have R := someAt_first p L.length
  clear hr H
  generalize firstAt p L.length = r at *
  generalize someAt p L.length = b at *
  generalize L.length = n at *
  rcases R with ⟨rfl, h⟩ | ⟨rfl, rfl⟩
  · go_enter Tryz.func87, Tryz.ntmps87
    go_wp2_with (go_at_call 57; refine S.out.mono ?_; rintro e w' ⟨rfl, rfl⟩)
    go_ret
    exact ⟨rfl, rfl⟩
  · go_enter Tryz.func87, Tryz.ntmps87
    go_wp2_with (go_at_call 57; refine S.out.mono ?_; rintro e w' ⟨rfl, rfl⟩)
    go_ret
    exact ⟨rfl, rfl⟩
set_option maxHeartbeats 1000000 in
theorem index59 {w : World} {pa : Option Addr} {L : List Value} (pc : Nat) (hr : Row w pa L) (hn : L.length ≤ 1000000) (p : Nat → Bool)
    (H : ∀ j (h : j < L.length), Calls Tryz.prog 59 #[L[j]] w fun e w' => e = .returned (.bool (p j)) ∧ w = w') :
    Calls Tryz.prog 57 #[.slice pa L.length pc, .func (.func 59) #[] #[]] w fun e w' => e = .returned (.int .i64 (firstAt p L.length)) ∧ w = w' := by
  have HR := Lib.hid hr
  have HH := Lib.hid H
  obtain ⟨n, hN⟩ : ∃ n, n = L.length := ⟨_, rfl⟩
  have HN := Lib.hid hN
  have hnI : (n : Int) ≤ 1000000 := by omega
  rw [← hN]
  clear hr H hN hn
  go_enter Tryz.func57, Tryz.ntmps57
  go_wp2_with fail
  go_loop [8] (fun i => ∃ j : Nat, i = .int .i64 j ∧ j ≤ n ∧ Hid (∀ i < j, p i = false)) (fun i => n - (intOf i).toNat)
  case atStart => exact ⟨0, rfl, Nat.zero_le _, Lib.hid fun i hi => absurd hi (Nat.not_lt_zero i)⟩
  case round =>
    obtain ⟨j, rfl, hj, hp⟩ := hrel
    by_cases hjn : j < n
    · have hjL : j < L.length := by rw [← HN.out]; exact hjn
      have jI : (j : Int) < (n : Int) := by omega
      obtain ⟨g, o, rfl, hg, ck⟩ := HR.out j hjL
      have C := Lib.hid (HH.out j hjL)
      generalize L[j] = v at *
      cases hb : p j
      · have HB := Lib.hid hb
        rw [hb] at C
        clear hb
        go_wp2_with (go_at_call 59; refine C.out.mono ?_; rintro e w' ⟨rfl, rfl⟩)
        go_round
        case rel => exact ⟨j + 1, by go_num, by omega, Lib.hid fun i hi => by
          by_cases h : i < j
          · exact hp.out i h
          · rw [show i = j by omega]; exact HB.out⟩
        case measure => simp [intOf]; omega
      · have HB := Lib.hid hb
        rw [hb] at C
        clear hb
        go_wp2_with (go_at_call 59; refine C.out.mono ?_; rintro e w' ⟨rfl, rfl⟩)
        go_ret
        exact ⟨ret_int (firstAt_some hjn HB.out hp.out).symm, rfl⟩
    · obtain rfl : j = n := by omega
      have jI : ¬ (j : Int) < (j : Int) := by omega
      go_wp2_with fail
      go_ret
      exact ⟨ret_int (firstAt_none hp.out).symm, rfl⟩
set_option maxHeartbeats 1000000 in
theorem contains59 {w : World} {pa : Option Addr} {L : List Value} (pc : Nat) (hr : Row w pa L) (hn : L.length ≤ 1000000) (p : Nat → Bool)
    (H : ∀ j (h : j < L.length), Calls Tryz.prog 59 #[L[j]] w fun e w' => e = .returned (.bool (p j)) ∧ w = w') :
    Calls Tryz.prog 87 #[.slice pa L.length pc, .func (.func 59) #[] #[]] w fun e w' => e = .returned (.bool (someAt p L.length)) ∧ w = w' := by
  have S := Lib.hid (index59 pc hr hn p H)
  have R := someAt_first p L.length
  clear hr H
  generalize firstAt p L.length = r at *
  generalize someAt p L.length = b at *
  generalize L.length = n at *
  rcases R with ⟨rfl, h⟩ | ⟨rfl, rfl⟩
  · go_enter Tryz.func87, Tryz.ntmps87
    go_wp2_with (go_at_call 57; refine S.out.mono ?_; rintro e w' ⟨rfl, rfl⟩)
    go_ret
    exact ⟨rfl, rfl⟩
  · go_enter Tryz.func87, Tryz.ntmps87
    go_wp2_with (go_at_call 57; refine S.out.mono ?_; rintro e w' ⟨rfl, rfl⟩)
    go_ret
    exact ⟨rfl, rfl⟩
set_option maxHeartbeats 1000000 in
theorem index88 {w : World} {pa : Option Addr} {L : List Value} (pc : Nat) (hr : Row w pa L) (hn : L.length ≤ 1000000) (p : Nat → Bool)
    (H : ∀ j (h : j < L.length), Calls Tryz.prog 88 #[L[j]] w fun e w' => e = .returned (.bool (p j)) ∧ w = w') :
    Calls Tryz.prog 57 #[.slice pa L.length pc, .func (.func 88) #[] #[]] w fun e w' => e = .returned (.int .i64 (firstAt p L.length)) ∧ w = w' := by
  have HR := Lib.hid hr
  have HH := Lib.hid H
  obtain ⟨n, hN⟩ : ∃ n, n = L.length := ⟨_, rfl⟩
  have HN := Lib.hid hN
  have hnI : (n : Int) ≤ 1000000 := by omega
  rw [← hN]
  clear hr H hN hn
  go_enter Tryz.func57, Tryz.ntmps57
  go_wp2_with fail
  go_loop [8] (fun i => ∃ j : Nat, i = .int .i64 j ∧ j ≤ n ∧ Hid (∀ i < j, p i = false)) (fun i => n - (intOf i).toNat)
  case atStart => exact ⟨0, rfl, Nat.zero_le _, Lib.hid fun i hi => absurd hi (Nat.not_lt_zero i)⟩
  case round =>
    obtain ⟨j, rfl, hj, hp⟩ := hrel
    by_cases hjn : j < n
    · have hjL : j < L.length := by rw [← HN.out]; exact hjn
      have jI : (j : Int) < (n : Int) := by omega
      obtain ⟨g, o, rfl, hg, ck⟩ := HR.out j hjL
      have C := Lib.hid (HH.out j hjL)
      generalize L[j] = v at *
      cases hb : p j
      · have HB := Lib.hid hb
        rw [hb] at C
        clear hb
        go_wp2_with (go_at_call 88; refine C.out.mono ?_; rintro e w' ⟨rfl, rfl⟩)
        go_round
        case rel => exact ⟨j + 1, by go_num, by omega, Lib.hid fun i hi => by
          by_cases h : i < j
          · exact hp.out i h
          · rw [show i = j by omega]; exact HB.out⟩
        case measure => simp [intOf]; omega
      · have HB := Lib.hid hb
        rw [hb] at C
        clear hb
        go_wp2_with (go_at_call 88; refine C.out.mono ?_; rintro e w' ⟨rfl, rfl⟩)
        go_ret
        exact ⟨ret_int (firstAt_some hjn HB.out hp.out).symm, rfl⟩
    · obtain rfl : j = n := by omega
      have jI : ¬ (j : Int) < (j : Int) := by omega
      go_wp2_with fail
      go_ret
      exact ⟨ret_int (firstAt_none hp.out).symm, rfl⟩
set_option maxHeartbeats 1000000 in
theorem contains88 {w : World} {pa : Option Addr} {L : List Value} (pc : Nat) (hr : Row w pa L) (hn : L.length ≤ 1000000) (p : Nat → Bool)
    (H : ∀ j (h : j < L.length), Calls Tryz.prog 88 #[L[j]] w fun e w' => e = .returned (.bool (p j)) ∧ w = w') :
    Calls Tryz.prog 87 #[.slice pa L.length pc, .func (.func 88) #[] #[]] w fun e w' => e = .returned (.bool (someAt p L.length)) ∧ w = w' := by
  have S := Lib.hid (index88 pc hr hn p H)
  have R := someAt_first p L.length
  clear hr H
  generalize firstAt p L.length = r at *
  generalize someAt p L.length = b at *
  generalize L.length = n at *
  rcases R with ⟨rfl, h⟩ | ⟨rfl, rfl⟩
  · go_enter Tryz.func87, Tryz.ntmps87
    go_wp2_with (go_at_call 57; refine S.out.mono ?_; rintro e w' ⟨rfl, rfl⟩)
    go_ret
    exact ⟨rfl, rfl⟩
  · go_enter Tryz.func87, Tryz.ntmps87
    go_wp2_with (go_at_call 57; refine S.out.mono ?_; rintro e w' ⟨rfl, rfl⟩)
    go_ret
    exact ⟨rfl, rfl⟩
end Go.Proofs.YtkajadkmdcalmaaGreatDoor
/-
  empty AND deep, of the parts in memory.
-/
namespace Go.Proofs.YtkajadkmdcalmaaGreatDoor
open Go.RowKit
/-- what is known of the first nodes -/
structure Good (l : List Nd) (j : Nat) : Prop where
  le : j ≤ l.length
  kids : ∀ i (h : i < j), kidsIn (l[i]'(by omega)) i
  op : ∀ i (h : i < j), 1 ≤ (l[i]'(by omega)).op ∧ (l[i]'(by omega)).op ≤ 5
  few : ∀ i (h : i < l.length), l[i].kids.length ≤ 200
theorem someAt_any (f : Int → Bool) (ks : List Int) : someAt (fun j => f (ks.getD j 0)) ks.length = ks.any f := by
  unfold someAt
  rw [Bool.eq_iff_iff, List.any_eq_true, List.any_eq_true]
  constructor
  · rintro ⟨j, hj, hp⟩
    have hj' : j < ks.length := by simpa using hj
    refine ⟨ks[j], List.getElem_mem _, ?_⟩
    simpa [List.getD_eq_getElem?_getD, hj'] using hp
  · rintro ⟨k, hk, hp⟩
    obtain ⟨j, hj, rfl⟩ := List.getElem_of_mem hk
    exact ⟨j, by simpa using hj, by simpa [List.getD_eq_getElem?_getD, hj] using hp⟩
theorem ptrs_at {Bs : List Nat} {ks : List Int} {j : Nat} (h : j < (ptrs Bs ks).length) : (ptrs Bs ks)[j] = ptr (Bs.getD (ks.getD j 0).toNat 0) := by
  have h' : j < ks.length := by simpa [ptrs] using h
  simp [ptrs, List.getD_eq_getElem?_getD, h']
theorem not_not_all (f : Int → Bool) (ks : List Int) : (!ks.any fun k => !f k) = ks.all f := by
  induction ks with
  | nil => rfl
  | cons k ks ih => rw [List.any_cons, List.all_cons, ← ih]; simp
set_option maxHeartbeats 1000000 in
theorem notempty_any {w : World} {v : Value} {b : Bool} (h : Calls Tryz.prog 59 #[v] w fun e w' => e = .returned (.bool b) ∧ w = w') :
    Calls Tryz.prog 88 #[v] w fun e w' => e = .returned (.bool (!b)) ∧ w = w' := by
  have H := Lib.hid h
  clear h
  go_enter Tryz.func88, Tryz.ntmps88
  go_wp2_with (go_at_call 59; refine H.out.mono ?_; rintro e w' ⟨rfl, rfl⟩)
  go_ret
  exact ⟨rfl, rfl⟩
set_option maxHeartbeats 2000000 in
theorem empty_any {w : World} {l : List Nd} {Bs : List Nat} (h : Parts w l Bs) (G : Good l Bs.length) : ∀ i (hi : i < Bs.length),
    Calls Tryz.prog 59 #[ptr Bs[i]] w fun e w' => e = .returned (.bool (emptyF l i)) ∧ w = w' := by
  intro i
  induction i using Nat.strongRecOn with
  | ind i ih =>
    intro hi
    have hil : i < l.length := Nat.lt_of_lt_of_le hi G.le
    obtain ⟨ca, cc, ka, kc, pa, pc, hb, -, hr⟩ := (h.at_ i hi).ex
    have c0 : w.cell? ⟨Bs[i], 0, none⟩ = some (.int .i64 l[i].op) := hb.cell 0
    have c3 : w.cell? ⟨Bs[i], 3, none⟩ = some (.int .i64 l[i].lo) := hb.cell 3
    have c6 : w.cell? ⟨Bs[i], 6, none⟩ = some (.slice pa l[i].kids.length pc) := hb.cell 6
    obtain ⟨o1, o2⟩ := G.op i hi
    have hk := G.kids i hi
    have hf := G.few i hil
    have K : ∀ j (hj : j < (ptrs Bs l[i].kids).length), Calls Tryz.prog 59 #[(ptrs Bs l[i].kids)[j]] w fun e w' => e = .returned (.bool ((fun k => emptyF l k.toNat) (l[i].kids.getD j 0))) ∧ w = w' := by
      intro j hj
      rw [ptrs_at hj]
      have hj' : j < l[i].kids.length := by simpa [ptrs] using hj
      have hm := hk _ (List.getElem_mem hj')
      have e : l[i].kids.getD j 0 = l[i].kids[j] := by simp [List.getD_eq_getElem?_getD, hj']
      rw [e]
      have hlt : l[i].kids[j].toNat < Bs.length := by omega
      have := ih l[i].kids[j].toNat (by omega) hlt
      have e2 : Bs.getD l[i].kids[j].toNat 0 = Bs[l[i].kids[j].toNat] := by simp [List.getD_eq_getElem?_getD, hlt]
      rw [e2]
      exact this
    have C1 := contains59 pc hr (by rw [ptrs_len]; omega) (fun j => (fun k => emptyF l k.toNat) (l[i].kids.getD j 0)) K
    have C2 := contains88 pc hr (by rw [ptrs_len]; omega) (fun j => (fun k => !emptyF l k.toNat) (l[i].kids.getD j 0)) fun j hj => notempty_any (K j hj)
    rw [ptrs_len, someAt_any (fun k => emptyF l k.toNat)] at C1
    rw [ptrs_len, someAt_any (fun k => !emptyF l k.toNat)] at C2
    have E := emptyF_eq hil hk
    rw [← not_not_all] at E
    have C1h := Lib.hid C1
    have C2h := Lib.hid C2
    clear C1 C2 K hb hr ih hk
    generalize l[i].kids.any (fun k => emptyF l k.toNat) = b1 at *
    generalize l[i].kids.any (fun k => !emptyF l k.toNat) = b2 at *
    generalize l[i].kids.length = n at *
    generalize l[i].op = op at *
    generalize l[i].lo = lo at *
    generalize Bs[i] = g at *
    rw [E]
    clear E
    unfold ptr
    obtain rfl | rfl | rfl | rfl | rfl : op = 1 ∨ op = 2 ∨ op = 3 ∨ op = 4 ∨ op = 5 := by omega
    · go_enter Tryz.func59, Tryz.ntmps59
      go_wp2_with fail
      go_ret
      exact ⟨rfl, rfl⟩
    · go_enter Tryz.func59, Tryz.ntmps59
      go_wp2_with (go_at_call 87; refine C2h.out.mono ?_; rintro e w' ⟨rfl, rfl⟩)
      go_ret
      exact ⟨rfl, rfl⟩
    · go_enter Tryz.func59, Tryz.ntmps59
      go_wp2_with (go_at_call 87; refine C1h.out.mono ?_; rintro e w' ⟨rfl, rfl⟩)
      go_ret
      exact ⟨rfl, rfl⟩
    · go_enter Tryz.func59, Tryz.ntmps59
      go_wp2_with fail
      go_ret
      exact ⟨rfl, rfl⟩
    · go_enter Tryz.func59, Tryz.ntmps59
      go_wp2_with fail
      go_ret
      exact ⟨rfl, rfl⟩
theorem max_nat (a b : Nat) : max (a : Int) (b : Int) = ((max a b : Nat) : Int) := by omega
set_option maxHeartbeats 2000000 in
theorem deep_any {w : World} {l : List Nd} {Bs : List Nat} (h : Parts w l Bs) (G : Good l Bs.length) (hB : Bs.length ≤ 200) : ∀ i (hi : i < Bs.length),
    Calls Tryz.prog 60 #[ptr Bs[i]] w fun e w' => e = .returned (.int .i64 (deepF l i)) ∧ w = w' := by
  intro i
  induction i using Nat.strongRecOn with
  | ind i ih =>
    intro hi
    have hil : i < l.length := Nat.lt_of_lt_of_le hi G.le
    obtain ⟨ca, cc, ka, kc, pa, pc, hb, -, hr⟩ := (h.at_ i hi).ex
    have c6 : w.cell? ⟨Bs[i], 6, none⟩ = some (.slice pa l[i].kids.length pc) := hb.cell 6
    have hk := G.kids i hi
    have hf := G.few i hil
    have D : ∀ k, k < Bs.length → deepF l k ≤ 201 := fun k hk' => by
      have hA : Ahead (l.take Bs.length) := fun x hx => by
        have hx' : x < Bs.length := by simp at hx; omega
        rw [List.getElem_take]
        exact G.kids x hx'
      have e : deepF (l.take Bs.length) k = deepF l k := by
        unfold deepF
        rw [List.getD_eq_getElem?_getD, List.getD_eq_getElem?_getD, made_take deepG l hk' G.le]
      have := deepF_le hA k (by simp; have := G.le; omega)
      omega
    have K := Lib.hid (fun j (hj : j < l[i].kids.length) => show Calls Tryz.prog 60 #[ptr (Bs.getD (l[i].kids[j]).toNat 0)] w fun e w' => e = .returned (.int .i64 (deepF l (l[i].kids[j]).toNat)) ∧ w = w' by
      have hm := hk _ (List.getElem_mem hj)
      have hlt : l[i].kids[j].toNat < Bs.length := by omega
      have e2 : Bs.getD l[i].kids[j].toNat 0 = Bs[l[i].kids[j].toNat] := by simp [List.getD_eq_getElem?_getD, hlt]
      rw [e2]
      exact ih l[i].kids[j].toNat (by omega) hlt)
    have D2 := Lib.hid (fun j (hj : j < l[i].kids.length) => D (l[i].kids[j]).toNat (by have hm := hk _ (List.getElem_mem hj); omega))
    have R := Lib.hid hr
    have E := Lib.hid (deepF_eq hil hk)
    clear hb hr ih hk D
    generalize l[i].kids = ks at *
    generalize Bs[i] = g at *
    obtain ⟨n, hN⟩ : ∃ n, n = ks.length := ⟨_, rfl⟩
    have HN := Lib.hid hN
    rw [← hN] at c6 hf
    have hnI : (n : Int) ≤ 200 := by omega
    clear hN
    rw [show ptr g = .pointer (some ⟨g, 0, none⟩) from rfl]
    go_enter Tryz.func60, Tryz.ntmps60
    go_wp2_with fail
    go_loop [3, 11] (fun m i => ∃ (j m0 : Nat), i = .int .i64 j ∧ m = .int .i64 m0 ∧ j ≤ n ∧ m0 ≤ 201 ∧ Hid (m0 = (ks.take j).foldl (fun m k => max m (deepF l k.toNat)) 0)) (fun _ i => n - (intOf i).toNat)
    case atStart => exact ⟨0, 0, rfl, rfl, Nat.zero_le _, Nat.zero_le _, Lib.hid rfl⟩
    case round =>
      obtain ⟨j, m0, rfl, rfl, hj, hm0, hm⟩ := hrel
      by_cases hjn : j < n
      · have hjL : j < ks.length := by rw [← HN.out]; exact hjn
        have jI : (j : Int) < (n : Int) := by omega
        obtain ⟨pg, po, rfl, hg, ck⟩ := R.out j (by rw [ptrs_len]; exact hjL)
        rw [ptrs_at (by rw [ptrs_len]; exact hjL), show ks.getD j 0 = ks[j] by simp [List.getD_eq_getElem?_getD, hjL]] at ck
        have C := Lib.hid (K.out j hjL)
        have hd := D2.out j hjL
        have M := Lib.hid (show max m0 (deepF l (ks[j]).toNat) = (ks.take (j + 1)).foldl (fun m k => max m (deepF l k.toNat)) 0 by
          rw [List.take_succ_eq_append_getElem hjL, List.foldl_append, ← hm.out]; rfl)
        generalize deepF l (ks[j]).toNat = d at *
        generalize Bs.getD (ks[j]).toNat 0 = q at *
        have X := Lib.hid (max_nat m0 d)
        obtain ⟨m1, h1⟩ : ∃ m1, m1 = max m0 d := ⟨_, rfl⟩
        have H1 := Lib.hid h1
        have hm1 : m1 ≤ 201 := by omega
        clear h1 hm
        go_wp2_with (go_at_call 60; refine C.out.mono ?_; rintro e w' ⟨rfl, rfl⟩)
        all_goals
          go_round
          case rel => exact ⟨j + 1, m1, by go_num, by rw [H1.out]; go_num, by omega, hm1, Lib.hid (by rw [H1.out]; exact M.out)⟩
          case measure => simp [intOf]; omega
      · obtain rfl : j = n := by omega
        have jI : ¬ (j : Int) < (j : Int) := by omega
        go_wp2_with fail
        go_ret
        exact ⟨ret_int (by rw [E.out, hm.out, List.take_of_length_le (by rw [HN.out]; exact Nat.le_refl _)]; simp), rfl⟩
end Go.Proofs.YtkajadkmdcalmaaGreatDoor
/-
  WHICH PARTS MAY BE: bare, timeless, a guard, an Alt, a Seq, a Loop.
-/
namespace Go.Proofs.YtkajadkmdcalmaaGreatDoor
open Go.RowKit
theorem below_drewN {B : Nat} {w w' : World} (h : Below B w w') (n : Nat) : Below B w (w'.drewN n) := ⟨h.os, h.tape, h.output, h.size, h.block⟩
theorem Parts.drewN {w : World} {l : List Nd} {Bs : List Nat} (h : Parts w l Bs) (n : Nat) : Parts (w.drewN n) l Bs := h.below (below_drewN (Below.refl _ w) n)
theorem PartOk.drewN {w : World} {Bs : List Nat} {m : Nd} {g : Nat} (h : PartOk w Bs m g) (n : Nat) : PartOk (w.drewN n) Bs m g := h.below (below_drewN (Below.refl _ w) n)
theorem kind_zero (k : ByteArray) : (k = ⟨#[]⟩ ∧ decide (k.size = 0) = true) ∨ ((k.toList == []) = false ∧ decide (k.size = 0) = false) := by
  by_cases h : k = ⟨#[]⟩
  · exact .inl ⟨h, by subst h; rfl⟩
  · refine .inr ⟨str_zero h, decide_eq_false fun e => h ?_⟩
    apply ByteArray.ext
    exact Array.eq_empty_of_size_eq_zero e
set_option maxHeartbeats 1000000 in
theorem bare_any {w : World} {Bs : List Nat} {n : Nd} {g : Nat} (h : PartOk w Bs n g) (hc : n.conds.length ≤ 100) :
    Calls Tryz.prog 86 #[ptr g] w fun e w' => e = .returned (.bool (bareB n)) ∧ w = w' := by
  obtain ⟨ca, cc, ka, kc, pa, pc, hb, -⟩ := h.ex
  have c1 : w.cell? ⟨g, 1, none⟩ = some (.string n.kind) := hb.cell 1
  have c2 : w.cell? ⟨g, 2, none⟩ = some (.slice ca n.conds.length cc) := hb.cell 2
  have e : bareB n = (decide (n.kind.size = 0) && decide (n.conds.length = 0)) := by
    unfold bareB
    cases n.conds <;> simp
  rw [e]
  clear hb h e
  generalize n.conds.length = m at *
  generalize n.kind = k at *
  unfold ptr
  rcases kind_zero k with ⟨h1, h2⟩ | ⟨h1, h2⟩
  · rw [h2]
    subst h1
    clear h2
    by_cases hm : m = 0
    · subst hm
      go_enter Tryz.func86, Tryz.ntmps86
      go_wp2_with fail
      go_ret
      exact ⟨rfl, rfl⟩
    · have m1 : ((m : Int) == 0) = false := by simp; omega
      have m2 : decide (m = 0) = false := decide_eq_false hm
      go_enter Tryz.func86, Tryz.ntmps86
      go_wp2_with fail
      go_ret
      exact ⟨by rw [m2]; rfl, rfl⟩
  · rw [h2]
    clear h2
    go_enter Tryz.func86, Tryz.ntmps86
    go_wp2_with fail
    go_ret
    exact ⟨rfl, rfl⟩
set_option maxHeartbeats 1000000 in
theorem timeless_any {w : World} {Bs : List Nat} {n : Nd} {g : Nat} (h : PartOk w Bs n g) :
    Calls Tryz.prog 85 #[ptr g] w fun e w' => e = .returned (.bool (timeB n)) ∧ w = w' := by
  obtain ⟨ca, cc, ka, kc, pa, pc, hb, -⟩ := h.ex
  have c3 : w.cell? ⟨g, 3, none⟩ = some (.int .i64 n.lo) := hb.cell 3
  have c4 : w.cell? ⟨g, 4, none⟩ = some (.int .i64 n.hi) := hb.cell 4
  clear hb h
  unfold timeB ptr
  generalize n.lo = lo at *
  generalize n.hi = hi at *
  by_cases h1 : lo = 0
  · subst h1
    by_cases h2 : hi = 0
    · subst h2
      go_enter Tryz.func85, Tryz.ntmps85
      go_wp2_with fail
      go_ret
      exact ⟨rfl, rfl⟩
    · have e2 : (hi == 0) = false := by simpa using h2
      go_enter Tryz.func85, Tryz.ntmps85
      go_wp2_with fail
      go_ret
      exact ⟨by rw [e2]; rfl, rfl⟩
  · have e1 : (lo == 0) = false := by simpa using h1
    go_enter Tryz.func85, Tryz.ntmps85
    go_wp2_with fail
    go_ret
    exact ⟨by rw [e1]; rfl, rfl⟩
/-- what a rule answers -/
def Ruled (w : World) (b : Bool) (e : Ending) (w' : World) : Prop := e = .returned (.bool b) ∧ Below w.heap.size w w'
theorem none_any (v : Value) (w : World) : Calls Tryz.prog 56 #[v] w (Ruled w false) := by
  go_enter Tryz.func56, Tryz.ntmps56
  go_wp2_with fail
  go_ret
  exact ⟨rfl, Below.refl _ _⟩
/-- the kids' cells -/
theorem kid_at {w : World} {l : List Nd} {Bs : List Nat} {ks : List Int} {pa : Option Addr} (h : Parts w l Bs) (hr : Row w pa (ptrs Bs ks)) (hk : ∀ k ∈ ks, 0 ≤ k ∧ k < (Bs.length : Int)) {j : Nat} (hj : j < ks.length) :
    ∃ pg po q m, pa = some ⟨pg, po, none⟩ ∧ w.cell? ⟨pg, po + j, none⟩ = some (ptr q) ∧ l[ks[j].toNat]? = some m ∧ ks[j].toNat < Bs.length ∧ Bs[ks[j].toNat]? = some q ∧ PartOk w Bs m q := by
  obtain ⟨pg, po, e, _, ck⟩ := hr j (by rw [ptrs_len]; exact hj)
  have hm := hk _ (List.getElem_mem hj)
  have hq : ks[j].toNat < Bs.length := by omega
  have hl : ks[j].toNat < l.length := Nat.lt_of_lt_of_le hq h.le
  rw [ptrs_at (by rw [ptrs_len]; exact hj), show ks.getD j 0 = ks[j] by simp [List.getD_eq_getElem?_getD, hj], show Bs.getD ks[j].toNat 0 = Bs[ks[j].toNat] by simp [List.getD_eq_getElem?_getD, hq]] at ck
  exact ⟨pg, po, _, l[ks[j].toNat], e, ck, List.getElem?_eq_getElem hl, hq, List.getElem?_eq_getElem hq, h.at_ _ hq⟩
theorem opAt_eq {l : List Nd} {k : Int} {m : Nd} (h : l[k.toNat]? = some m) : opAt l k = m.op := by unfold opAt; simp [h]
theorem head_0 {ks : List Int} (h : 0 < ks.length) : ks.headD 0 = ks[0] := by cases ks with | nil => simp at h | cons a t => rfl
set_option maxHeartbeats 2000000 in
theorem guardMay_any {w : World} {l : List Nd} {Bs : List Nat} {n : Nd} {g : Nat} (h : Parts w l Bs) (hp : PartOk w Bs n g) (hk : ∀ k ∈ n.kids, 0 ≤ k ∧ k < (Bs.length : Int)) (_hf : n.kids.length ≤ 200) (hc : n.conds.length ≤ 100) :
    Calls Tryz.prog 55 #[ptr g] w (Ruled w (guardB l n)) := by
  have B := Lib.hid (bare_any hp hc)
  have T := Lib.hid (timeless_any hp)
  obtain ⟨ca, cc, ka, kc, pa, pc, hb, -, hr⟩ := hp.ex
  have c6 : w.cell? ⟨g, 6, none⟩ = some (.slice pa n.kids.length pc) := hb.cell 6
  have K := Lib.hid (fun (j : Nat) (hj : j < n.kids.length) => kid_at h hr hk hj)
  clear hb hr hk h hp
  unfold guardB Ruled
  generalize bareB n = b1 at *
  generalize timeB n = b2 at *
  generalize n.kids = ks at *
  cases b1
  · unfold ptr
    go_enter Tryz.func55, Tryz.ntmps55
    go_wp2_with (go_at_call 86; refine B.out.mono ?_; rintro e w' ⟨rfl, rfl⟩)
    go_ret
    exact ⟨rfl, Below.refl _ _⟩
  cases b2
  · unfold ptr
    go_enter Tryz.func55, Tryz.ntmps55
    go_wp2_with (first | (go_at_call 86; refine B.out.mono ?_; rintro e w' ⟨rfl, rfl⟩) | (go_at_call 85; refine T.out.mono ?_; rintro e w' ⟨rfl, rfl⟩))
    go_ret
    exact ⟨rfl, Below.refl _ _⟩
  by_cases h1 : ks.length = 1
  · obtain ⟨pg, po, q, m, rfl, ck, hm, -, -, hP⟩ := K.out 0 (by omega)
    obtain ⟨ca', cc', ka', kc', pa', pc', hb', -, -⟩ := hP.ex
    have d0 : w.cell? ⟨q, 0, none⟩ = some (.int .i64 m.op) := hb'.cell 0
    rw [head_0 (by omega), opAt_eq hm, decide_eq_true h1]
    rw [h1] at c6
    rw [Nat.add_zero] at ck
    clear K hb' hP hm h1
    generalize m.op = op at *
    unfold ptr at *
    by_cases h5 : op = 1
    · subst h5
      go_enter Tryz.func55, Tryz.ntmps55
      go_wp2_with (first | (go_at_call 86; refine B.out.mono ?_; rintro e w' ⟨rfl, rfl⟩) | (go_at_call 85; refine T.out.mono ?_; rintro e w' ⟨rfl, rfl⟩))
      go_ret
      exact ⟨rfl, Below.refl _ _⟩
    · have e5 : (op == 1) = false := by simpa using h5
      go_enter Tryz.func55, Tryz.ntmps55
      go_wp2_with (first | (go_at_call 86; refine B.out.mono ?_; rintro e w' ⟨rfl, rfl⟩) | (go_at_call 85; refine T.out.mono ?_; rintro e w' ⟨rfl, rfl⟩))
      go_ret
      exact ⟨by rw [e5]; rfl, Below.refl _ _⟩
  · rw [decide_eq_false h1]
    have e1 : ((ks.length : Int) == 1) = false := by simp; omega
    clear K
    generalize ks.length = m at *
    unfold ptr
    go_enter Tryz.func55, Tryz.ntmps55
    go_wp2_with (first | (go_at_call 86; refine B.out.mono ?_; rintro e w' ⟨rfl, rfl⟩) | (go_at_call 85; refine T.out.mono ?_; rintro e w' ⟨rfl, rfl⟩))
    go_ret
    exact ⟨by simp, Below.refl _ _⟩
set_option maxHeartbeats 2000000 in
theorem altMay_any {w : World} {l : List Nd} {Bs : List Nat} {n : Nd} {g : Nat} (h : Parts w l Bs) (hp : PartOk w Bs n g) (hk : ∀ k ∈ n.kids, 0 ≤ k ∧ k < (Bs.length : Int)) (hf : n.kids.length ≤ 200) (hc : n.conds.length ≤ 100) :
    Calls Tryz.prog 53 #[ptr g] w (Ruled w (altB l n)) := by
  have B := Lib.hid (bare_any hp hc)
  have T := Lib.hid (timeless_any hp)
  obtain ⟨ca, cc, ka, kc, pa, pc, hb, -, hr⟩ := hp.ex
  have c6 : w.cell? ⟨g, 6, none⟩ = some (.slice pa n.kids.length pc) := hb.cell 6
  have C := contains58 pc hr (by rw [ptrs_len]; omega) (fun j => (isGuard l) (n.kids.getD j 0)) fun j hj => by
    have hj' : j < n.kids.length := by simpa [ptrs] using hj
    obtain ⟨pg, po, q, m, _, ck, hm', hq, hbq, hP⟩ := kid_at h hr hk hj'
    have hm := hk _ (List.getElem_mem hj')
    rw [ptrs_at hj, show n.kids.getD j 0 = n.kids[j] by simp [List.getD_eq_getElem?_getD, hj'], show Bs.getD n.kids[j].toNat 0 = q by simp [List.getD_eq_getElem?_getD, hbq]]
    have := guard_any hP
    unfold isGuard
    rw [opAt_eq hm']
    exact this
  rw [ptrs_len, someAt_any (isGuard l)] at C
  have CH := Lib.hid C
  clear hb hr hk h hp C
  unfold altB Ruled
  generalize bareB n = b1 at *
  generalize timeB n = b2 at *
  generalize n.kids.any (isGuard l) = b3 at *
  generalize n.kids.length = m at *
  unfold ptr at *
  cases b1
  · go_enter Tryz.func53, Tryz.ntmps53
    go_wp2_with (go_at_call 86; refine B.out.mono ?_; rintro e w' ⟨rfl, rfl⟩)
    go_ret
    exact ⟨rfl, Below.refl _ _⟩
  cases b2
  · go_enter Tryz.func53, Tryz.ntmps53
    go_wp2_with (first | (go_at_call 86; refine B.out.mono ?_; rintro e w' ⟨rfl, rfl⟩) | (go_at_call 85; refine T.out.mono ?_; rintro e w' ⟨rfl, rfl⟩))
    go_ret
    exact ⟨rfl, Below.refl _ _⟩
  by_cases h1 : 2 ≤ m
  · rw [decide_eq_true h1]
    have h1I : (2 : Int) ≤ (m : Int) := by omega
    cases b3
    all_goals
      go_enter Tryz.func53, Tryz.ntmps53
      go_wp2_with (first | (go_at_call 86; refine B.out.mono ?_; rintro e w' ⟨rfl, rfl⟩) | (go_at_call 85; refine T.out.mono ?_; rintro e w' ⟨rfl, rfl⟩) | (go_at_call 87; refine CH.out.mono ?_; rintro e w' ⟨rfl, rfl⟩))
      go_ret
      exact ⟨rfl, Below.refl _ _⟩
  · rw [decide_eq_false h1]
    have h1I : ¬ (2 : Int) ≤ (m : Int) := by omega
    have h1J : decide ((2 : Int) ≤ (m : Int)) = false := decide_eq_false h1I
    go_enter Tryz.func53, Tryz.ntmps53
    go_wp2_with (first | (go_at_call 86; refine B.out.mono ?_; rintro e w' ⟨rfl, rfl⟩) | (go_at_call 85; refine T.out.mono ?_; rintro e w' ⟨rfl, rfl⟩))
    go_ret
    exact ⟨rfl, Below.refl _ _⟩
end Go.Proofs.YtkajadkmdcalmaaGreatDoor
