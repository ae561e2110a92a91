/-
  WHAT THE ROWS REST ON, part 5: Word Hlaw Evm Ope Chk1.
-/
import Derived.LoopTactic
import Derived.Deep.AppendLies
import Derived.Deep.RegionLaw
import Derived.Laws.OwnMore
import Derived.Test.YtkajadkmdcalmaaGreatDoorPart4
/-
  WORDS: event.letter, digit, number, Word.
-/
namespace Go.Proofs.YtkajadkmdcalmaaGreatDoor
open Go.RowKit
def lettB (b : Int) : Bool := decide (97 ≤ b) && decide (b ≤ 122)
def digB (b : Int) : Bool := decide (48 ≤ b) && decide (b ≤ 57)
def numB (n : Int) : Bool := decide (0 ≤ n) && decide (n ≤ 549755813888)
theorem letter_any (b : Int) (w : World) : Calls Tryz.prog 99 #[.int .u8 b] w fun e w' => e = .returned (.bool (lettB b)) ∧ w = w' := by
  unfold lettB
  by_cases h1 : 97 ≤ b
  · by_cases h2 : b ≤ 122
    · rw [decide_eq_true h1, decide_eq_true h2]
      go_enter Tryz.func99, Tryz.ntmps99
      go_wp2_with fail
      go_ret
      exact ⟨ret_bool (by simp), rfl⟩
    · rw [decide_eq_true h1, decide_eq_false h2]
      have h3 : 122 < b := by omega
      go_enter Tryz.func99, Tryz.ntmps99
      go_wp2_with fail
      go_ret
      exact ⟨ret_bool (by simp), rfl⟩
  · rw [decide_eq_false h1]
    have h3 : b < 97 := by omega
    go_enter Tryz.func99, Tryz.ntmps99
    go_wp2_with fail
    go_ret
    exact ⟨rfl, rfl⟩
theorem digit_any (b : Int) (w : World) : Calls Tryz.prog 100 #[.int .u8 b] w fun e w' => e = .returned (.bool (digB b)) ∧ w = w' := by
  unfold digB
  by_cases h1 : 48 ≤ b
  · by_cases h2 : b ≤ 57
    · rw [decide_eq_true h1, decide_eq_true h2]
      go_enter Tryz.func100, Tryz.ntmps100
      go_wp2_with fail
      go_ret
      exact ⟨ret_bool (by simp), rfl⟩
    · rw [decide_eq_true h1, decide_eq_false h2]
      have h3 : 57 < b := by omega
      go_enter Tryz.func100, Tryz.ntmps100
      go_wp2_with fail
      go_ret
      exact ⟨ret_bool (by simp), rfl⟩
  · rw [decide_eq_false h1]
    have h3 : b < 48 := by omega
    go_enter Tryz.func100, Tryz.ntmps100
    go_wp2_with fail
    go_ret
    exact ⟨rfl, rfl⟩
theorem number_any (n : Int) (w : World) : Calls Tryz.prog 116 #[.int .i64 n] w fun e w' => e = .returned (.bool (numB n)) ∧ w = w' := by
  unfold numB
  by_cases h1 : 0 ≤ n
  · by_cases h2 : n ≤ 549755813888
    · rw [decide_eq_true h1, decide_eq_true h2]
      go_enter Tryz.func116, Tryz.ntmps116
      go_wp2_with fail
      go_ret
      exact ⟨ret_bool (by simp), rfl⟩
    · rw [decide_eq_true h1, decide_eq_false h2]
      have h3 : 549755813888 < n := by omega
      go_enter Tryz.func116, Tryz.ntmps116
      go_wp2_with fail
      go_ret
      exact ⟨ret_bool (by simp), rfl⟩
  · rw [decide_eq_false h1]
    have h3 : n < 0 := by omega
    go_enter Tryz.func116, Tryz.ntmps116
    go_wp2_with fail
    go_ret
    exact ⟨rfl, rfl⟩
def chB (b : Int) : Bool := lettB b || digB b || b == 95
def bl (s : ByteArray) : List UInt8 := s.data.toList
theorem bl_len (s : ByteArray) : (bl s).length = s.size := by unfold bl; rw [Array.length_toList]; rfl
/-- is a text a word? -/
def wordB (s : ByteArray) : Bool := decide (1 ≤ s.size) && decide (s.size ≤ 16) && lettB ((bl s).headD 0).toNat && (bl s).all fun b => chB b.toNat
theorem head_at (s : ByteArray) (h : 0 < s.size) : (bl s).headD 0 = s[0] := by
  have hl : 0 < s.data.toList.length := by simpa using h
  have e : s.data.toList = s[0] :: s.data.toList.drop 1 := List.drop_eq_getElem_cons (l := s.data.toList) (i := 0) hl
  unfold bl
  rw [e]; rfl
theorem take_more (s : ByteArray) (k : Nat) (h : k < s.size) : (bl s).take (k + 1) = (bl s).take k ++ [s[k]] := by
  unfold bl
  rw [List.take_succ_eq_append_getElem (by simpa using h)]; rfl
set_option maxHeartbeats 1000000 in
theorem word_any (s : ByteArray) (hs : s.size ≤ 9223372036854775807) (w : World) : Calls Tryz.prog 83 #[.string s] w fun e w' => e = .returned (.bool (wordB s)) ∧ w = w' := by
  unfold wordB
  by_cases h1 : s.size < 1
  · have R := Lib.hid (show false = (decide (1 ≤ s.size) && decide (s.size ≤ 16) && lettB ((bl s).headD 0).toNat && (bl s).all fun b => chB b.toNat) by rw [decide_eq_false (by omega)]; rfl)
    rw [← R.out]
    have h1' : (s.size : Int) < 1 := by omega
    go_enter Tryz.func83, Tryz.ntmps83
    go_wp2_with fail
    go_ret
    exact ⟨rfl, rfl⟩
  have h1' : ¬ (s.size : Int) < 1 := by omega
  by_cases h2 : 16 < s.size
  · have R := Lib.hid (show false = (decide (1 ≤ s.size) && decide (s.size ≤ 16) && lettB ((bl s).headD 0).toNat && (bl s).all fun b => chB b.toNat) by rw [decide_eq_false (show ¬ s.size ≤ 16 by omega), Bool.and_false]; rfl)
    rw [← R.out]
    have h2' : (16 : Int) < (s.size : Int) := by omega
    go_enter Tryz.func83, Tryz.ntmps83
    go_wp2_with fail
    go_ret
    exact ⟨rfl, rfl⟩
  have h2' : ¬ (16 : Int) < (s.size : Int) := by omega
  have hp : 0 < s.size := by omega
  have h0 := head_at s hp
  rw [decide_eq_true (show 1 ≤ s.size by omega), decide_eq_true (show s.size ≤ 16 by omega), h0]
  have L0 := letter_any s[0].toNat
  cases hl : lettB s[0].toNat
  · rw [hl] at L0
    clear hl
    go_enter Tryz.func83, Tryz.ntmps83
    go_wp2_with fail
    refine (L0 _).mono ?_
    rintro e w1 ⟨rfl, rfl⟩
    go_wp2_with fail
    go_ret
    exact ⟨rfl, rfl⟩
  · rw [hl] at L0
    clear hl
    simp only [Bool.true_and]
    generalize hA : ((bl s).all fun b => chB b.toNat) = A
    have HA := Lib.hid hA
    clear hA
    go_enter Tryz.func83, Tryz.ntmps83
    go_wp2_with fail
    refine (L0 _).mono ?_
    rintro e w1 ⟨rfl, rfl⟩
    clear L0
    go_wp2_with fail
    go_loop [20] (fun i => ∃ k : Nat, i = .int .i64 k ∧ k ≤ s.size ∧ Hid ((((bl s).take k).all fun b => chB b.toNat) = true)) (fun i => s.size - (intOf i).toNat)
    case atStart => exact ⟨0, rfl, Nat.zero_le _, Lib.hid rfl⟩
    case round =>
      obtain ⟨k, rfl, hk, hall⟩ := hrel
      by_cases hks : k < s.size
      · have LK := letter_any s[k].toNat
        have DK := digit_any s[k].toNat
        cases hc : chB s[k].toNat
        · have R := Lib.hid (show false = A by
            rw [← HA.out]
            symm
            rw [List.all_eq_false]
            refine ⟨s[k], ?_, by simp [hc]⟩
            unfold bl
            exact List.mem_iff_getElem.2 ⟨k, by rw [Array.length_toList]; exact hks, rfl⟩)
          unfold chB at hc
          simp only [Bool.or_eq_false_iff] at hc
          rw [hc.1.1] at LK
          rw [hc.1.2] at DK
          have e95 : ((s[k].toNat : Int) != 95) = true := by simpa using hc.2
          clear hc
          go_wp2_with fail
          refine (LK _).mono ?_
          rintro e w1 ⟨rfl, rfl⟩
          go_wp2_with fail
          refine (DK _).mono ?_
          rintro e w1 ⟨rfl, rfl⟩
          go_wp2_with fail
          go_ret
          exact ⟨ret_bool R.out, rfl⟩
        · have N := Lib.hid (show (((bl s).take (k + 1)).all fun b => chB b.toNat) = true by
            rw [take_more s k hks, List.all_append, hall.out]; simp [hc])
          cases hl : lettB s[k].toNat
          · cases hd : digB s[k].toNat
            · have e95 : ((s[k].toNat : Int) != 95) = false := by
                unfold chB at hc
                rw [hl, hd] at hc
                simpa using hc
              rw [hl] at LK
              rw [hd] at DK
              clear hc hl hd
              go_wp2_with fail
              refine (LK _).mono ?_
              rintro e w1 ⟨rfl, rfl⟩
              go_wp2_with fail
              refine (DK _).mono ?_
              rintro e w1 ⟨rfl, rfl⟩
              go_wp2_with fail
              go_round
              case rel => exact ⟨k + 1, by go_num, by omega, N⟩
              case measure => simp [intOf]; omega
            · rw [hl] at LK
              rw [hd] at DK
              clear hc hl hd
              go_wp2_with fail
              refine (LK _).mono ?_
              rintro e w1 ⟨rfl, rfl⟩
              go_wp2_with fail
              refine (DK _).mono ?_
              rintro e w1 ⟨rfl, rfl⟩
              go_wp2_with fail
              go_round
              case rel => exact ⟨k + 1, by go_num, by omega, N⟩
              case measure => simp [intOf]; omega
          · rw [hl] at LK
            clear hc hl DK
            go_wp2_with fail
            refine (LK _).mono ?_
            rintro e w1 ⟨rfl, rfl⟩
            go_wp2_with fail
            go_round
            case rel => exact ⟨k + 1, by go_num, by omega, N⟩
            case measure => simp [intOf]; omega
      · obtain rfl : k = s.size := by omega
        have R := Lib.hid (show true = A by
          rw [← HA.out, ← hall.out, List.take_of_length_le (by rw [bl_len]; exact Nat.le_refl _)])
        go_wp2_with fail
        go_ret
        exact ⟨ret_bool R.out, rfl⟩
end Go.Proofs.YtkajadkmdcalmaaGreatDoor
/-
  THE LAWS EventHolds, EventOrder AS WALKS.
-/
namespace Go.Proofs.YtkajadkmdcalmaaGreatDoor
open Go.RowKit
@[go_sem] theorem run_store_float {P : Program} {w : World} {a : Addr} {m : Mode} (k : FloatKind) (b : Nat) : (store a (.float k b) m).run P w = stored P w a (.float k b) m := run_store P w a _ m rfl
theorem opS3 (s : Int) (h : s = 0 ∨ s = 1 ∨ s = 2 ∨ s = 3 ∨ s = 4) : (opS 3 s = decide (s = 2)) ∧ (opS 1 s = decide (s = 3)) ∧ (opS 5 s = decide (s = 4)) := by
  rcases h with rfl | rfl | rfl | rfl | rfl <;> decide
end Go.Proofs.YtkajadkmdcalmaaGreatDoor
/-
  FIELDS IN MEMORY; AN EVENT AS THE DOCUMENT HAS IT: Ref.
-/
namespace Go.Proofs.YtkajadkmdcalmaaGreatDoor
open Go.RowKit
structure Fld where
  nm : ByteArray
  v : Val
def encF (x : Fld) : List Value := [.string x.nm, .int .i64 x.v.k, .int .i64 x.v.n, .float .f64 x.v.f, .string x.v.s]
def cellsF (l : List Fld) : List Value := l.flatMap encF
theorem cellsF_one (l : List Fld) (x : Fld) : cellsF (l ++ [x]) = cellsF l ++ encF x := by unfold cellsF; rw [List.flatMap_append]; simp
theorem cellsF_get : ∀ {l : List Fld} {k : Nat} (h : k < l.length) (j : Nat), j < 5 → (cellsF l)[k * 5 + j]? = (encF l[k])[j]?
  | x :: l, 0, _, j, hj => by
    show (encF x ++ cellsF l)[0 * 5 + j]? = _
    rw [Nat.zero_mul, Nat.zero_add, List.getElem?_append_left (show j < (encF x).length from hj)]; rfl
  | x :: l, k + 1, h, j, hj => by
    have ih := cellsF_get (l := l) (k := k) (by simpa using h) j hj
    show (encF x ++ cellsF l)[(k + 1) * 5 + j]? = _
    have e : (encF x).length = 5 := rfl
    rw [List.getElem?_append_right (by omega), e, show (k + 1) * 5 + j - 5 = k * 5 + j by omega]
    exact ih
/-- fields in memory -/
def Flds (w : World) (a : Option Addr) (L : List Fld) : Prop := ∀ p (h : p < L.length), ∃ g o, a = some ⟨g, o, none⟩ ∧ g < w.heap.size ∧
  w.cell? ⟨g, o + p * 5, none⟩ = some (.string L[p].nm) ∧ w.cell? ⟨g, o + p * 5 + 1, none⟩ = some (.int .i64 L[p].v.k) ∧ w.cell? ⟨g, o + p * 5 + 2, none⟩ = some (.int .i64 L[p].v.n) ∧ w.cell? ⟨g, o + p * 5 + 3, none⟩ = some (.float .f64 L[p].v.f) ∧ w.cell? ⟨g, o + p * 5 + 4, none⟩ = some (.string L[p].v.s)
theorem Flds.below {w w' : World} {a : Option Addr} {L : List Fld} (h : Flds w a L) (hb : Below w.heap.size w w') : Flds w' a L := fun p hp => by
  obtain ⟨g, o, e, hl, c0, c1, c2, c3, c4⟩ := h p hp
  have q : ∀ {i : Nat} {v : Value}, w.cell? ⟨g, i, none⟩ = some v → w'.cell? ⟨g, i, none⟩ = some v := fun hc => by rw [hb.cell (p := ⟨g, _, none⟩) hl]; exact hc
  exact ⟨g, o, e, Nat.lt_of_lt_of_le hl hb.size, q c0, q c1, q c2, q c3, q c4⟩
theorem flds_own {w : World} {B t g cap n : Nat} {l : List Fld} (hn : n = l.length) (h : w.ownsRow B t 5 (.slice (some ⟨g, 0, none⟩) n cap) n (cellsF l)) : Flds w (some ⟨g, 0, none⟩) l := fun p hp => by
  have hg : g < w.heap.size := (World.ownsRow.lt h g rfl).2
  subst hn
  refine ⟨g, 0, rfl, hg, ?_, ?_, ?_, ?_, ?_⟩
  · have := cellsF_get hp 0 (by decide); rw [Nat.zero_add, World.ownsRow.cellAt h _ (by omega)]; simpa [encF] using this
  · have := cellsF_get hp 1 (by decide); rw [Nat.zero_add, World.ownsRow.cellAt h _ (by omega)]; simpa [encF] using this
  · have := cellsF_get hp 2 (by decide); rw [Nat.zero_add, World.ownsRow.cellAt h _ (by omega)]; simpa [encF] using this
  · have := cellsF_get hp 3 (by decide); rw [Nat.zero_add, World.ownsRow.cellAt h _ (by omega)]; simpa [encF] using this
  · have := cellsF_get hp 4 (by decide); rw [Nat.zero_add, World.ownsRow.cellAt h _ (by omega)]; simpa [encF] using this
theorem info62 : (Tryz.prog.info? 87).map (fun i => (i.zero, i.size, i.bytes)) = some (some (.agg #[.string ⟨#[]⟩, .int .i64 0, .int .i64 0, .float .f64 0, .string ⟨#[]⟩]), 5, 56) := by kernel_rfl
theorem fld_form {w : World} {B : Nat} {v : Value} {n : Nat} {xs : List Value} (h : w.ownsRow B 87 5 v n xs) : ∃ a c, v = .slice a n c := by
  rcases h.2 with ⟨rfl, e⟩ | ⟨g, cap, cur, rfl, _⟩
  · exact ⟨none, 0, by rw [e]⟩
  · exact ⟨_, _, rfl⟩
/-- a block that is known whole -/
def Blk (w : World) (g : Nat) (t : TypeId) (cs : Array Value) : Prop := w.heap[g]? = some (.cells cs t (0, 0))
theorem Blk.lt {w : World} {g : Nat} {t : TypeId} {cs : Array Value} (h : Blk w g t cs) : g < w.heap.size := (Array.getElem?_eq_some_iff.1 h).1
theorem Blk.cell {w : World} {g : Nat} {t : TypeId} {cs : Array Value} (h : Blk w g t cs) (i : Nat) : w.cell? ⟨g, i, none⟩ = cs[i]? := cell_of_row w g i cs t (0, 0) h
theorem Blk.free {w : World} {g : Nat} {t : TypeId} {cs : Array Value} (h : Blk w g t cs) (i : Nat) : w.frozen? ⟨g, i, none⟩ = false := by unfold Blk at h; simp [World.frozen?, h]
theorem Blk.below {w w' : World} {g : Nat} {t : TypeId} {cs : Array Value} (h : Blk w g t cs) (hb : Below w.heap.size w w') : Blk w' g t cs := (hb.block g h.lt).trans h
def evV (a b c : Int) (k : ByteArray) (s : Value) : Value := .agg #[.int .i64 a, .int .i64 b, .int .i64 c, .string k, s]
/-- what Ref answers -/
def Refd (w : World) (a b c : Int) (k : ByteArray) (L : List Fld) (e : Ending) (w' : World) : Prop := ∃ p cp, e = .returned (evV a b c k (.slice p (List.length L) cp)) ∧ Flds w' p L ∧ Below w.heap.size w w'
/-- the round of Ref's loop -/
structure RefI (w wq : World) (Y B : Nat) (a b c : Int) (k : ByteArray) (pv : Value) (L : List Fld) (j : Nat) (u : Value) : Prop where
  e : Blk wq Y 46 #[.int .i64 a, .int .i64 b, .int .i64 c, .string k, pv]
  z : Blk wq (Y + 1) 55 #[.int .i64 0, .int .i64 0, .int .i64 0, .string ⟨#[]⟩, .slice none 0 0]
  x : Blk wq (Y + 1 + 1) 55 #[.int .i64 a, .int .i64 b, .int .i64 c, .string k, u]
  o : wq.ownsRow B 87 5 u j (cellsF (L.take j))
  b : Below Y w wq
theorem RefI.push {w wq W0 w4 : World} {Y B : Nat} {a b c : Int} {k : ByteArray} {pv : Value} {L : List Fld} {j g cap : Nat} {u : Value} (h : RefI w wq Y B a b c k pv L j u) (hB : Y + 1 + 1 < B) (hj : j < L.length) (hW : Below wq.heap.size wq W0)
    (ho : w4.ownsRow B 87 5 (.slice (some ⟨g, 0, none⟩) (j + 1) cap) (j + 1) (cellsF (L.take j) ++ encF L[j])) (hg : W0.grownBy w4 u.ownBlock) :
    RefI w (w4.setCell ⟨Y + 1 + 1, 4, none⟩ (.slice (some ⟨g, 0, none⟩) (j + 1) cap)) Y B a b c k pv L (j + 1) (.slice (some ⟨g, 0, none⟩) (j + 1) cap) ∧ w4.frozen? ⟨Y + 1 + 1, 4, none⟩ = false ∧ w4.cell? ⟨Y + 1 + 1, 4, none⟩ = some u := by
  have hu : ∀ q, u.ownBlock = some q → B ≤ q := fun q hq => (World.ownsRow.lt h.o q hq).1
  have kp : ∀ {q : Nat} {t : TypeId} {cs : Array Value}, q < B → Blk wq q t cs → Blk w4 q t cs := fun hq hb => by
    have h0 := hb.below hW
    exact (hg.block _ h0.lt (fun e => by have := hu _ e.symm; omega)).trans h0
  have hx := kp (by omega) h.x
  have hgB : B ≤ g := (World.ownsRow.lt ho g rfl).1
  have ne : ∀ {q : Nat} {t : TypeId} {cs : Array Value}, q ≠ Y + 1 + 1 → Blk w4 q t cs → Blk (w4.setCell ⟨Y + 1 + 1, 4, none⟩ (.slice (some ⟨g, 0, none⟩) (j + 1) cap)) q t cs := fun hq hb => (Below.heap_setCell _ _ _ _ hq).trans hb
  refine ⟨⟨ne (by omega) (kp (by omega) h.e), ne (by omega) (kp (by omega) h.z), ?_, ?_, ?_⟩, hx.free 4, by rw [hx.cell]; rfl⟩
  · have := heap_setCell_same w4 (Y + 1 + 1) 4 #[.int .i64 a, .int .i64 b, .int .i64 c, .string k, u] 55 (.slice (some ⟨g, 0, none⟩) (j + 1) cap) hx
    exact this
  · have e : L.take (j + 1) = L.take j ++ [L[j]] := by rw [List.take_succ_eq_append_getElem hj]
    rw [e, cellsF_one]
    exact ownsRow_setCell_other ho (by simp [Value.ownBlock]; omega) _
  · have b1 : Below Y w W0 := h.b.trans (hW.mono (Nat.le_of_lt h.e.lt))
    have b2 : Below Y w w4 := b1.trans ⟨hg.os, hg.tape, hg.output, hg.size, fun q hq => hg.block q (Nat.lt_of_lt_of_le (Nat.lt_trans hq h.e.lt) hW.size) (fun e => by have := hu q e.symm; omega)⟩
    exact b2.setCell (p := ⟨Y + 1 + 1, 4, none⟩) (by show Y ≤ Y + 1 + 1; omega) _
theorem RefI.drew {w wq : World} {Y B : Nat} {a b c : Int} {k : ByteArray} {pv : Value} {L : List Fld} {j : Nat} {u : Value} (h : RefI w wq Y B a b c k pv L j u) : RefI w wq.drew Y B a b c k pv L j u :=
  ⟨h.e, h.z, h.x, World.ownsRow.kept h.o (row := none) ⟨rfl, rfl, rfl, Nat.le_refl _, fun _ _ _ => rfl⟩ (by cases u.ownBlock <;> simp), h.b.drew⟩
/-- what lies in the answer's block at the end -/
theorem ref_end {w wr : World} {Y : Nat} {a b c : Int} {k : ByteArray} {pv : Value} {L : List Fld} {ua : Option Addr} {uc j : Nat} (h : RefI w wr Y (Y + 3) a b c k pv L j (.slice ua j uc)) (hj : j = L.length) :
    ∃ W5, W5 = ((((wr.setCell ⟨Y + 1, 0, none⟩ (.int .i64 a)).setCell ⟨Y + 1, 1, none⟩ (.int .i64 b)).setCell ⟨Y + 1, 2, none⟩ (.int .i64 c)).setCell ⟨Y + 1, 3, none⟩ (.string k)).setCell ⟨Y + 1, 4, none⟩ (.slice ua j uc) ∧ Blk W5 (Y + 1) 55 #[.int .i64 a, .int .i64 b, .int .i64 c, .string k, .slice ua j uc] ∧ Below Y w W5 ∧ Flds W5 ua L := by
  have st : ∀ {W : World} {cs : Array Value} (i : Nat) (v : Value), Blk W (Y + 1) 55 cs → Blk (W.setCell ⟨Y + 1, i, none⟩ v) (Y + 1) 55 (cs.setIfInBounds i v) := fun i v hb => heap_setCell_same _ _ i _ 55 v hb
  have so : ∀ {W : World} (i : Nat) (v : Value), W.ownsRow (Y + 3) 87 5 (.slice ua j uc) j (cellsF (L.take j)) → (W.setCell ⟨Y + 1, i, none⟩ v).ownsRow (Y + 3) 87 5 (.slice ua j uc) j (cellsF (L.take j)) := fun i v ho => ownsRow_setCell_other ho (fun e => by have := (World.ownsRow.lt ho (Y + 1) (by first | exact e | exact e.symm)).1; omega) _
  have sb : ∀ {W : World} (i : Nat) (v : Value), Below Y w W → Below Y w (W.setCell ⟨Y + 1, i, none⟩ v) := fun i v hb => hb.setCell (p := ⟨Y + 1, i, none⟩) (by show Y ≤ Y + 1; omega) _
  have ho := so 4 (.slice ua j uc) (so 3 (.string k) (so 2 (.int .i64 c) (so 1 (.int .i64 b) (so 0 (.int .i64 a) h.o))))
  refine ⟨_, rfl, st 4 _ (st 3 _ (st 2 _ (st 1 _ (st 0 _ h.z)))), sb 4 _ (sb 3 _ (sb 2 _ (sb 1 _ (sb 0 _ h.b)))), ?_⟩
  rw [hj, List.take_of_length_le (Nat.le_refl _), ← hj] at ho
  rcases ho.2 with ⟨e, e0⟩ | ⟨g, cap, cur, e, _⟩
  · intro p hp; omega
  · cases e
    exact flds_own hj ho
end Go.Proofs.YtkajadkmdcalmaaGreatDoor
/-
  FOR THE ROWS: an event that came in.
-/
namespace Go.Proofs.YtkajadkmdcalmaaGreatDoor
open Go.Joins Go.ChangeShapes Go.WideShapes Go.RowKit Go.Deep
theorem weightsAll_mem {H : Type} {P : Program} {e : TypeId} : ∀ {l : List (DataW H)} {d : DataW H} {n : Nat}, d ∈ l → n ∈ d.weights P e → n ∈ DataW.weightsAll P e l
  | x :: r, d, n, hd, hn => by
    simp only [DataW.weightsAll, List.mem_append]
    rcases List.mem_cons.1 hd with rfl | hd
    · exact .inl hn
    · exact .inr (weightsAll_mem hd hn)
theorem one24 : oneCellFields Tryz.prog #[{ name := "Session", type := 3, offset := 0, embedded := false, tag := "", pkgPath := "", byteOffset := 0 }, { name := "Seq", type := 3, offset := 1, embedded := false, tag := "", pkgPath := "", byteOffset := 8 }, { name := "Stamp", type := 3, offset := 2, embedded := false, tag := "", pkgPath := "", byteOffset := 16 }, { name := "Kind", type := 9, offset := 3, embedded := false, tag := "", pkgPath := "", byteOffset := 46 }, { name := "Fields", type := 44, offset := 4, embedded := false, tag := "", pkgPath := "", byteOffset := 40 }] = true := by kernel_rfl
theorem ce24 : Tryz.prog.cellsOf 46 = 5 := by kernel_rfl
theorem ce65 : Tryz.prog.cellsOf 85 = 5 := by kernel_rfl
theorem ce9 : Tryz.prog.cellsOf 9 = 1 := by kernel_rfl
theorem ce3 : Tryz.prog.cellsOf 3 = 1 := by kernel_rfl
theorem ce45 : Tryz.prog.cellsOf 70 = 1 := by kernel_rfl
theorem open_agg5 {H : Type} {enc : TypeId × Value → H} {P : Program} {w : World} {base : Nat} {spare : Nat → Bool} {held : Bool} {r : Reach} {b0 : Nat} {t : TypeId} {f0 f1 f2 f3 f4 : Field} {v : Value} {d : DataW H} {p : List MemPlace} (hs : P.underlying t = some (.struct #[f0, f1, f2, f3, f4])) (hone : oneCellFields P #[f0, f1, f2, f3, f4] = true) (hC : P.cellsOf t = 5)
    (hv : Value.okWide P w r b0 t v) (h : DataW.Trod enc P w base spare held t v d p) :
    ∃ (v0 v1 v2 v3 v4 : Value) (y0 y1 y2 y3 y4 : DataW H × List MemPlace) (n : Nat), v = .agg #[v0, v1, v2, v3, v4] ∧ d = .agg [y0.1, y1.1, y2.1, y3.1, y4.1] ∧ p = y0.2 ++ (y1.2 ++ (y2.2 ++ (y3.2 ++ y4.2))) ∧
      DataW.trod enc P w base spare held n f0.type [v0] = some y0 ∧ DataW.trod enc P w base spare held n f1.type [v1] = some y1 ∧ DataW.trod enc P w base spare held n f2.type [v2] = some y2 ∧ DataW.trod enc P w base spare held n f3.type [v3] = some y3 ∧ DataW.trod enc P w base spare held n f4.type [v4] = some y4 := by
  obtain ⟨cs, rfl, hsz⟩ := okWide_struct hs hv
  obtain ⟨l⟩ := cs
  match l, hsz.trans hC with
  | [c0, c1, c2, c3, c4], _ =>
    obtain ⟨fuel, hf⟩ := h
    obtain ⟨xs, n, _, hx, _, hlen, hg⟩ := DataW.trod_struct hs hf
    obtain ⟨o0, k0⟩ := hone_of hone 0 f0 rfl
    obtain ⟨o1, k1⟩ := hone_of hone 1 f1 rfl
    obtain ⟨o2, k2⟩ := hone_of hone 2 f2 rfl
    obtain ⟨o3, k3⟩ := hone_of hone 3 f3 rfl
    obtain ⟨o4, k4⟩ := hone_of hone 4 f4 rfl
    match xs, hlen with
    | [y0, y1, y2, y3, y4], _ =>
      simp only [Prod.mk.injEq] at hx
      exact ⟨c0, c1, c2, c3, c4, y0, y1, y2, y3, y4, n, rfl, by simpa using hx.1, by simpa using hx.2, by simpa [Value.cells, o0, k0] using hg 0 f0 rfl, by simpa [Value.cells, o1, k1] using hg 1 f1 rfl, by simpa [Value.cells, o2, k2] using hg 2 f2 rfl, by simpa [Value.cells, o3, k3] using hg 3 f3 rfl, by simpa [Value.cells, o4, k4] using hg 4 f4 rfl⟩
theorem add_at (b o n : Nat) : (⟨b, o, none⟩ : Addr).add n = ⟨b, o + n, none⟩ := by unfold Addr.add; split <;> simp_all
section
variable {H : Type} {enc : TypeId × Value → H} {W : World} {base : Nat}
set_option maxRecDepth 100000 in
theorem open_fld {b0 n : Nat} {sp : Nat → Bool} {hd : Bool} {a : Addr} {cs : List Value} {y : DataW H × List MemPlace} (h1 : W.cells? b0 a 5 = some cs) (h2 : DataW.trod enc Tryz.prog W b0 sp hd n 85 cs = some y) :
    ∃ x : Fld, x.v.Wf ∧ W.cell? (a.add 0) = some (.string x.nm) ∧ W.cell? (a.add 1) = some (.int .i64 x.v.k) ∧ W.cell? (a.add 2) = some (.int .i64 x.v.n) ∧ W.cell? (a.add 3) = some (.float .f64 x.v.f) ∧ W.cell? (a.add 4) = some (.string x.v.s) ∧ x.v.s.size ∈ y.1.weights Tryz.prog 85 ∧ x.nm.size ≤ maxLen ∧ x.v.s.size ≤ maxLen := by
  obtain ⟨_, hlen, hcell⟩ := World.cells?_some h1
  obtain ⟨xs, k, hk, hxy, _, hxl, hf⟩ := DataW.trod_struct Tryz.underlying85 h2
  match xs, hxl, cs, hlen with
  | [y0, y1], _, [v0, v1, v2, v3, v4], _ =>
    have g0 := hf 0 _ rfl
    have g1 := hf 1 _ rfl
    simp [ce9, ce47] at g0 g1
    obtain ⟨s0, e0, _, w0⟩ := DataW.trod_string Tryz.underlying9 g0
    obtain ⟨zs, k', hk', hzy, _, hzl, hz⟩ := DataW.trod_struct Tryz.underlying72 g1
    match zs, hzl with
    | [z0, z1, z2, z3], _ =>
      have t0 := hz 0 _ rfl
      have t1 := hz 1 _ rfl
      have t2 := hz 2 _ rfl
      have t3 := hz 3 _ rfl
      simp [ce9, ce3, ce45] at t0 t1 t2 t3
      obtain ⟨k0, q0, _, u0⟩ := DataW.trod_int Tryz.underlying3 t0
      obtain ⟨k1, q1, _, u1⟩ := DataW.trod_int Tryz.underlying3 t1
      obtain ⟨k2, q2, _, u2⟩ := trod_float Tryz.underlying70 t2
      obtain ⟨k3, q3, x3, u3⟩ := DataW.trod_string Tryz.underlying9 t3
      simp only [List.cons.injEq, and_true] at e0 q0 q1 q2 q3
      subst e0 q0 q1 q2 q3
      refine ⟨⟨s0, k0, k1, k2, k3⟩, ⟨wf_i64 u0, (wf_i64 u1).1, (wf_i64 u1).2, wf_f64 u2⟩, ?_, ?_, ?_, ?_, ?_, ?_, w0, u3⟩
      · simpa using hcell 0 (by omega)
      · simpa using hcell 1 (by omega)
      · simpa using hcell 2 (by omega)
      · simpa using hcell 3 (by omega)
      · simpa using hcell 4 (by omega)
      · rw [hxy]
        simp only [List.map_cons, List.map_nil, DataW.weights, Tryz.underlying85]
        refine DataW.weights_mem_each (j := 1) (t := 72) (d := y1.1) rfl rfl _ ?_
        rw [hzy]
        simp only [List.map_cons, List.map_nil, DataW.weights, Tryz.underlying72]
        refine DataW.weights_mem_each (j := 3) (t := 9) (d := z3.1) rfl rfl _ ?_
        rw [x3]
        simp only [DataW.weights, List.mem_singleton]
        rw [Array.length_toList]; rfl
set_option maxRecDepth 100000 in
theorem open_event {v : Value} {d : DataW H} {p : List MemPlace} (hv : Value.okWide Tryz.prog W .any base 46 v) (h : DataW.Trod enc Tryz.prog W 0 (fun _ => true) true 46 v d p) :
    ∃ (a b c : Int) (k : ByteArray) (q : Option Addr) (cp : Nat) (L : List Fld), v = evV a b c k (.slice q L.length cp) ∧ Flds W q L ∧ L.length ≤ 9223372036854775807 ∧ (∀ x ∈ L, x.v.Wf ∧ x.nm.size ≤ maxLen ∧ x.v.s.size ≤ maxLen) ∧ k.size ≤ maxLen ∧
      (-9223372036854775808 ≤ a ∧ a ≤ 9223372036854775807) ∧ (-9223372036854775808 ≤ b ∧ b ≤ 9223372036854775807) ∧ (-9223372036854775808 ≤ c ∧ c ≤ 9223372036854775807) ∧ ((∀ n ∈ d.weights Tryz.prog 46, n ≤ reachBytes) → ∀ x ∈ L, x.v.s.size ≤ reachBytes) := by
  obtain ⟨v0, v1, v2, v3, v4, y0, y1, y2, y3, y4, n, rfl, hd, _, h0, h1, h2, h3, h4⟩ := open_agg5 Tryz.underlying46 one24 ce24 hv h
  obtain ⟨k0, e0, _, w0⟩ := DataW.trod_int Tryz.underlying3 h0
  obtain ⟨k1, e1, _, w1⟩ := DataW.trod_int Tryz.underlying3 h1
  obtain ⟨k2, e2, _, w2⟩ := DataW.trod_int Tryz.underlying3 h2
  obtain ⟨s3, e3, _, w3⟩ := DataW.trod_string Tryz.underlying9 h3
  simp only [List.cons.injEq, and_true] at e0 e1 e2 e3
  subst e0 e1 e2 e3
  rcases Go.Deep.open_slice Tryz.underlying44 h4 with ⟨hcs, hy⟩ | ⟨a, len, cap, m, n', D, Pl, hcs, hb, hl, hm, hmm, hx, hi⟩
  · simp only [List.cons.injEq, and_true] at hcs
    subst hcs
    exact ⟨k0, k1, k2, s3, none, 0, [], rfl, fun i hi => by simp at hi, by simp, fun x hx => by simp at hx, w3, wf_i64 w0, wf_i64 w1, wf_i64 w2, fun _ x hx => by simp at hx⟩
  · simp only [List.cons.injEq, and_true] at hcs
    subst hcs
    have hlm : len ≤ m := by rw [hmm]; split <;> omega
    have hall : ∀ i, i < len → ∃ x : Fld, x.v.Wf ∧ W.cell? ((a.add (i * 5)).add 0) = some (.string x.nm) ∧ W.cell? ((a.add (i * 5)).add 1) = some (.int .i64 x.v.k) ∧ W.cell? ((a.add (i * 5)).add 2) = some (.int .i64 x.v.n) ∧ W.cell? ((a.add (i * 5)).add 3) = some (.float .f64 x.v.f) ∧ W.cell? ((a.add (i * 5)).add 4) = some (.string x.v.s) ∧ x.v.s.size ∈ (D i).weights Tryz.prog 85 ∧ x.nm.size ≤ maxLen ∧ x.v.s.size ≤ maxLen := fun i hi' => by
      obtain ⟨cs', hc, ht⟩ := hi i (by omega)
      rw [ce65] at hc
      exact open_fld hc ht
    have hsp : 0 < len → a.spot = none := fun h0 => by
      obtain ⟨x, _, c0, _⟩ := hall 0 h0
      obtain ⟨b, o, s⟩ := a
      cases s with
      | none => rfl
      | some q =>
        exfalso
        have e0 : ((⟨b, o, some q⟩ : Addr).add (0 * 5)).add 0 = ⟨b, o, some q⟩ := by simp [Addr.add]
        rw [e0] at c0
        have h01 : W.cell? ⟨b, o, some q⟩ = none := by
          unfold World.cell?
          split <;> simp
        rw [h01] at c0; simp at c0
    obtain ⟨f, hf⟩ : ∃ f : Nat → Fld, ∀ i, i < len → (f i).v.Wf ∧ W.cell? ((a.add (i * 5)).add 0) = some (.string (f i).nm) ∧ W.cell? ((a.add (i * 5)).add 1) = some (.int .i64 (f i).v.k) ∧ W.cell? ((a.add (i * 5)).add 2) = some (.int .i64 (f i).v.n) ∧ W.cell? ((a.add (i * 5)).add 3) = some (.float .f64 (f i).v.f) ∧ W.cell? ((a.add (i * 5)).add 4) = some (.string (f i).v.s) ∧ (f i).v.s.size ∈ (D i).weights Tryz.prog 85 ∧ (f i).nm.size ≤ maxLen ∧ (f i).v.s.size ≤ maxLen :=
      ⟨fun i => if h : i < len then Classical.choose (hall i h) else ⟨⟨#[]⟩, 0, 0, 0, ⟨#[]⟩⟩, fun i h => by
        simp only [dif_pos h]
        exact Classical.choose_spec (hall i h)⟩
    have e1 : ((List.range len).map f).length = len := by rw [List.length_map, List.length_range]
    refine ⟨k0, k1, k2, s3, some a, cap, (List.range len).map f, by rw [e1]; rfl, ?_, by rw [e1]; unfold maxLen at hm; omega, fun x hx => ?_, w3, wf_i64 w0, wf_i64 w1, wf_i64 w2, fun hw x hx' => ?_⟩
    · intro i hi'
      have hil : i < len := by rw [e1] at hi'; exact hi'
      have hs := (hf i hil).2
      have eg : ((List.range len).map f)[i] = f i := by rw [List.getElem_map, List.getElem_range]
      rw [eg]
      have hsn := hsp (by omega)
      clear hf hall hsp hi hmm
      obtain ⟨b, o, s⟩ := a
      simp only at hsn
      subst hsn
      simp only [add_at, Nat.add_zero] at hs
      exact ⟨b, o, rfl, World.block_lt_of_cell? _ _ hs.1, hs.1, hs.2.1, hs.2.2.1, hs.2.2.2.1, hs.2.2.2.2.1⟩
    · obtain ⟨i, hi', rfl⟩ := List.mem_map.1 hx
      have := hf i (List.mem_range.1 hi')
      exact ⟨this.1, this.2.2.2.2.2.2.2.1, this.2.2.2.2.2.2.2.2⟩
    · obtain ⟨i, hi', rfl⟩ := List.mem_map.1 hx'
      have hil := List.mem_range.1 hi'
      refine hw _ ?_
      rw [hd]
      simp only [DataW.weights, Tryz.underlying46]
      refine DataW.weights_mem_each (j := 4) (t := 44) (d := y4.1) rfl rfl _ ?_
      rw [hx]
      simp only [DataW.weights, Tryz.underlying44]
      refine List.mem_cons_of_mem _ (List.mem_append.2 (.inl ?_))
      exact weightsAll_mem (List.mem_map.2 ⟨i, hi', rfl⟩) (hf i hil).2.2.2.2.2.2.1
end
end Go.Proofs.YtkajadkmdcalmaaGreatDoor
/-
  VALUES THAT MAY BE: event.value, the document's may and in.
-/
namespace Go.Proofs.YtkajadkmdcalmaaGreatDoor
open Go.RowKit
def mayB (v : Val) : Bool :=
  if v.k = 1 then decide (v.f = 0) && decide (v.s = ⟨#[]⟩)
  else if v.k = 2 then decide (v.n = 0) && decide (v.s = ⟨#[]⟩)
  else if v.k = 3 then decide (v.s.size ≤ 64) && (decide (v.n = 0) && decide (v.f = 0))
  else false
theorem str_zero {s : ByteArray} (h : s ≠ ⟨#[]⟩) : (s.toList == []) = false := by
  simp only [ByteArray.toList_eq, beq_eq_false_iff_ne, ne_eq]
  intro e
  apply h
  cases s
  simp only [ByteArray.mk.injEq]
  exact Array.toList_inj.1 (by simpa using e)
set_option maxHeartbeats 1000000 in
theorem value_any (v : Val) (hs : v.s.size ≤ 9223372036854775807) (w : World) : Calls Tryz.prog 129 #[v.val] w fun e w' => e = .returned (.bool (mayB v)) ∧ Below w.heap.size w w' := by
  have hb := run_bits v.f
  obtain ⟨k, n, f, s⟩ := v
  unfold Val.val mayB
  simp only at *
  have FIN := Lib.hid (fun ob => (Below.refl _ w).alloc (Nat.le_refl _) ob)
  by_cases h1 : k = 1
  · subst h1
    rw [if_pos rfl]
    by_cases hf : f = 0
    · subst hf
      by_cases hz : s = ⟨#[]⟩
      · subst hz
        go_enter Tryz.func129, Tryz.ntmps129
        go_wp2_with fail
        go_ret
        exact ⟨rfl, FIN.out _⟩
      · rw [decide_eq_false hz]
        have hz' := str_zero hz
        clear hz
        go_enter Tryz.func129, Tryz.ntmps129
        go_wp2_with fail
        go_ret
        exact ⟨rfl, FIN.out _⟩
    · rw [decide_eq_false hf]
      have hf' : ((f : Int) == 0) = false := by simpa using hf
      clear hf
      go_enter Tryz.func129, Tryz.ntmps129
      go_wp2_with fail
      go_ret
      exact ⟨rfl, FIN.out _⟩
  rw [if_neg h1]
  by_cases h2 : k = 2
  · subst h2
    rw [if_pos rfl]
    clear h1 hb
    have hb0 := run_bits 0
    by_cases hn : n = 0
    · subst hn
      by_cases hz : s = ⟨#[]⟩
      · subst hz
        go_enter Tryz.func129, Tryz.ntmps129
        go_wp2_with fail
        go_ret
        exact ⟨rfl, FIN.out _⟩
      · rw [decide_eq_false hz]
        have hz' := str_zero hz
        clear hz
        go_enter Tryz.func129, Tryz.ntmps129
        go_wp2_with fail
        go_ret
        exact ⟨rfl, FIN.out _⟩
    · rw [decide_eq_false hn]
      have hn' : (n == 0) = false := by simpa using hn
      clear hn
      go_enter Tryz.func129, Tryz.ntmps129
      go_wp2_with fail
      go_ret
      exact ⟨rfl, FIN.out _⟩
  rw [if_neg h2]
  by_cases h3 : k = 3
  · subst h3
    rw [if_pos rfl]
    clear h1 h2
    by_cases hl : s.size ≤ 64
    · have hl' : ¬ (64 : Int) < (s.size : Int) := by omega
      rw [decide_eq_true hl]
      by_cases hn : n = 0
      · subst hn
        by_cases hf : f = 0
        · subst hf
          go_enter Tryz.func129, Tryz.ntmps129
          go_wp2_with fail
          go_ret
          exact ⟨rfl, FIN.out _⟩
        · rw [decide_eq_false hf]
          have hf' : ((f : Int) == 0) = false := by simpa using hf
          clear hf
          go_enter Tryz.func129, Tryz.ntmps129
          go_wp2_with fail
          go_ret
          exact ⟨rfl, FIN.out _⟩
      · rw [decide_eq_false hn]
        have hn' : (n == 0) = false := by simpa using hn
        clear hn
        go_enter Tryz.func129, Tryz.ntmps129
        go_wp2_with fail
        go_ret
        exact ⟨rfl, FIN.out _⟩
    · rw [decide_eq_false hl]
      have hl' : (64 : Int) < (s.size : Int) := by omega
      clear hl
      go_enter Tryz.func129, Tryz.ntmps129
      go_wp2_with fail
      go_ret
      exact ⟨rfl, FIN.out _⟩
  rw [if_neg h3]
  have d1 : (k == 1) = false := by simpa using h1
  have d2 : (k == 2) = false := by simpa using h2
  have d3 : (k == 3) = false := by simpa using h3
  clear h1 h2 h3
  go_enter Tryz.func129, Tryz.ntmps129
  go_wp2_with fail
  go_ret
  exact ⟨rfl, FIN.out _⟩
end Go.Proofs.YtkajadkmdcalmaaGreatDoor
