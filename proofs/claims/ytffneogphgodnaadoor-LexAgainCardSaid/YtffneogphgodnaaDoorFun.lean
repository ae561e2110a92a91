/-
  THE FUNCTIONS OF TOKENS: lex.token, word, sign, text.
-/
import Derived.Test.YtffneogphgodnaaDoorTok
import Derived.Laws.Rows
import Derived.Lib.AtoiErrMem
namespace Go.Proofs.YtffneogphgodnaaDoor
open Go.RowKit
/-- a block that is known whole -/
def Blk (w : World) (g : Nat) (t : TypeId) (cs : Array Value) : Prop := w.heap[g]? = some (.cells cs t (0, 0))
theorem Blk.lt {w : World} {g : Nat} {t : TypeId} {cs : Array Value} (h : Blk w g t cs) : g < w.heap.size := (Array.getElem?_eq_some_iff.1 h).1
theorem Blk.cell {w : World} {g : Nat} {t : TypeId} {cs : Array Value} (h : Blk w g t cs) (i : Nat) : w.cell? ⟨g, i, none⟩ = cs[i]? := cell_of_row w g i cs t (0, 0) h
theorem Blk.free {w : World} {g : Nat} {t : TypeId} {cs : Array Value} (h : Blk w g t cs) (i : Nat) : w.frozen? ⟨g, i, none⟩ = false := by unfold Blk at h; simp [World.frozen?, h]
theorem Blk.below {w w' : World} {g : Nat} {t : TypeId} {cs : Array Value} (h : Blk w g t cs) (hb : Below w.heap.size w w') : Blk w' g t cs := (hb.block g h.lt).trans h
theorem Blk.set {w : World} {q : Nat} {t : TypeId} {cs : Array Value} (h : Blk w q t cs) (i : Nat) (x : Value) : Blk (w.setCell ⟨q, i, none⟩ x) q t (cs.setIfInBounds i x) := heap_setCell_same _ _ i _ t x h
theorem Blk.set_other {w : World} {q p : Nat} {t : TypeId} {cs : Array Value} (h : Blk w q t cs) (hne : q ≠ p) (i : Nat) (x : Value) : Blk (w.setCell ⟨p, i, none⟩ x) q t cs := (Below.heap_setCell _ _ _ _ hne).trans h
theorem Blk.new (w : World) (t : TypeId) (cs : Array Value) : Blk (w.alloc (.cells cs t)) w.heap.size t cs := heap_alloc_new w _
/-- a token's cells stored into a block of the call's own -/
theorem tok_put {u W : World} {Y : Nat} {t : TypeId} (k a : Int) (x : ByteArray) (n : Int) (s : ByteArray) {cs : Array Value} (h : Blk W Y t cs) (hs : cs.size = 5) (hY : u.heap.size ≤ Y) (hb : Below u.heap.size u W) :
    ∃ W5, W5 = ((((W.setCell ⟨Y, 0, none⟩ (.int .i64 k)).setCell ⟨Y, 1, none⟩ (.int .i64 a)).setCell ⟨Y, 2, none⟩ (.string x)).setCell ⟨Y, 3, none⟩ (.int .i64 n)).setCell ⟨Y, 4, none⟩ (.string s) ∧ Blk W5 Y t #[.int .i64 k, .int .i64 a, .string x, .int .i64 n, .string s] ∧ Below u.heap.size u W5 ∧ (∀ q, q ≠ Y → W5.heap[q]? = W.heap[q]?) ∧ W5.heap.size = W.heap.size := by
  obtain ⟨l⟩ := cs
  match l, hs with
  | [x0, x1, x2, x3, x4], _ =>
    refine ⟨_, rfl, ((((h.set 0 _).set 1 _).set 2 _).set 3 _).set 4 _, ((((hb.setCell (p := ⟨Y, 0, none⟩) hY _).setCell (p := ⟨Y, 1, none⟩) hY _).setCell (p := ⟨Y, 2, none⟩) hY _).setCell (p := ⟨Y, 3, none⟩) hY _).setCell (p := ⟨Y, 4, none⟩) hY _, fun q hq => ?_, by simp⟩
    rw [Below.heap_setCell _ _ _ _ (show q ≠ Y from hq), Below.heap_setCell _ _ _ _ (show q ≠ Y from hq), Below.heap_setCell _ _ _ _ (show q ≠ Y from hq), Below.heap_setCell _ _ _ _ (show q ≠ Y from hq), Below.heap_setCell _ _ _ _ (show q ≠ Y from hq)]
theorem clone_any (s : ByteArray) (hs : s.size ≤ 281474976710656) (w : World) : Calls Tryd.prog 28 #[.string s] w fun e w' => e = .returned (.string s) ∧ Below w.heap.size w w' := by
  have C := Lib.hid (fun W => Tryd.stringslite_Clone s W hs)
  go_enter Tryd.func28, Tryd.ntmps28
  go_wp2_with fail
  refine (C.out _).mono ?_
  rintro e w1 ⟨rfl, b1⟩
  go_wp2_with fail
  go_ret
  exact ⟨rfl, b1⟩
set_option maxHeartbeats 1000000 in
theorem token_any (k : Int) (t : ByteArray) (ht : t.size ≤ 281474976710656) (w : World) : Calls Tryd.prog 22 #[.int .i64 k, .string t] w fun e w' => e = .returned (tokV k 0 t 0 ⟨#[]⟩) ∧ Below w.heap.size w w' := by
  obtain ⟨w1, hw1, K1, B1⟩ : ∃ w1, w1 = w.alloc (.cells #[.int .i64 0, .int .i64 0, .string ⟨#[]⟩, .int .i64 0, .string ⟨#[]⟩] 34) ∧ Blk w1 w.heap.size 34 #[.int .i64 0, .int .i64 0, .string ⟨#[]⟩, .int .i64 0, .string ⟨#[]⟩] ∧ Below w.heap.size w w1 := ⟨_, rfl, Blk.new w 34 _, (Below.refl _ w).alloc (Nat.le_refl _) _⟩
  have W1 := Lib.hid hw1
  have K1h := Lib.hid K1
  have B1h := Lib.hid B1
  clear hw1 K1 B1
  generalize hy : w.heap.size = Y at *
  have C := Lib.hid (clone_any t ht)
  go_enter Tryd.func22, Tryd.ntmps22
  go_wp2_with fail
  rw [← W1.out]
  refine (C.out _).mono ?_
  rintro e w2 ⟨rfl, b2⟩
  have K2h := Lib.hid (K1h.out.below b2)
  have B2h := Lib.hid (B1h.out.trans (b2.mono (by have := K1h.out.lt; omega)))
  clear b2
  have y0 : w2.cell? ⟨Y, 0, none⟩ = some (.int .i64 0) := K2h.out.cell 0
  have y1 : w2.cell? ⟨Y, 1, none⟩ = some (.int .i64 0) := K2h.out.cell 1
  have y2 : w2.cell? ⟨Y, 2, none⟩ = some (.string ⟨#[]⟩) := K2h.out.cell 2
  have y3 : w2.cell? ⟨Y, 3, none⟩ = some (.int .i64 0) := K2h.out.cell 3
  have y4 : w2.cell? ⟨Y, 4, none⟩ = some (.string ⟨#[]⟩) := K2h.out.cell 4
  have f0 := K2h.out.free 0
  have f1 := K2h.out.free 1
  have f2 := K2h.out.free 2
  have f3 := K2h.out.free 3
  have f4 := K2h.out.free 4
  obtain ⟨W5, hW5, R5, B5, _, _⟩ := tok_put (u := w) (k) (0) (t) (0) (⟨#[]⟩) K2h.out rfl (by rw [hy]; exact Nat.le_refl _) (by rw [hy]; exact B2h.out)
  have W5h := Lib.hid hW5
  have R5h := Lib.hid R5
  have B5h := Lib.hid B5
  clear hW5 R5 B5
  go_wp2_with fail
  rw [← W5h.out]
  have q0 : W5.cell? ⟨Y, 0, none⟩ = some (.int .i64 (k)) := R5h.out.cell 0
  have q1 : W5.cell? ⟨Y, 1, none⟩ = some (.int .i64 (0)) := R5h.out.cell 1
  have q2 : W5.cell? ⟨Y, 2, none⟩ = some (.string (t)) := R5h.out.cell 2
  have q3 : W5.cell? ⟨Y, 3, none⟩ = some (.int .i64 (0)) := R5h.out.cell 3
  have q4 : W5.cell? ⟨Y, 4, none⟩ = some (.string (⟨#[]⟩)) := R5h.out.cell 4
  refine bodyPost_ret (v := tokV (k) (0) (t) (0) (⟨#[]⟩)) (by simp [results, Tryd.results22, go_sem, q0, q1, q2, q3, q4, tokV]; try rfl) rfl ?_
  exact ⟨rfl, hy ▸ B5h.out⟩
set_option maxHeartbeats 1000000 in
theorem word_any (r : ByteArray) (hr : r.size ≤ 4096) (w : World) : Calls Tryd.prog 14 #[.string r] w fun e w' => e = .returned ((wordT r).val r) ∧ Below w.heap.size w w' := by
  obtain ⟨w1, hw1, K1, B1⟩ : ∃ w1, w1 = w.alloc (.cells #[.int .i64 0, .int .i64 0, .string ⟨#[]⟩, .int .i64 0, .string ⟨#[]⟩] 34) ∧ Blk w1 w.heap.size 34 #[.int .i64 0, .int .i64 0, .string ⟨#[]⟩, .int .i64 0, .string ⟨#[]⟩] ∧ Below w.heap.size w w1 := ⟨_, rfl, Blk.new w 34 _, (Below.refl _ w).alloc (Nat.le_refl _) _⟩
  have W1 := Lib.hid hw1
  have K1h := Lib.hid K1
  have B1h := Lib.hid B1
  clear hw1 K1 B1
  generalize hy : w.heap.size = Y at *
  have S := Lib.hid (span_word r (by omega))
  have hm := spanN_le wordB (bl r)
  rw [bl_len] at hm
  unfold wordT T1.val
  simp only
  generalize spanN wordB (bl r) = m at *
  have C := Lib.hid (token_any 1 (r.extract 0 m) (by rw [ByteArray.size_extract]; omega))
  go_enter Tryd.func14, Tryd.ntmps14
  go_wp2_with fail
  rw [← W1.out]
  refine (S.out _).mono ?_
  rintro e w2 ⟨rfl, rfl⟩
  go_wp2_with fail
  refine (C.out _).mono ?_
  rintro e w2 ⟨rfl, b2⟩
  have K2h := Lib.hid (K1h.out.below b2)
  have B2h := Lib.hid (B1h.out.trans (b2.mono (by have := K1h.out.lt; omega)))
  clear b2
  unfold tokV
  have y0 : w2.cell? ⟨Y, 0, none⟩ = some (.int .i64 0) := K2h.out.cell 0
  have y1 : w2.cell? ⟨Y, 1, none⟩ = some (.int .i64 0) := K2h.out.cell 1
  have y2 : w2.cell? ⟨Y, 2, none⟩ = some (.string ⟨#[]⟩) := K2h.out.cell 2
  have y3 : w2.cell? ⟨Y, 3, none⟩ = some (.int .i64 0) := K2h.out.cell 3
  have y4 : w2.cell? ⟨Y, 4, none⟩ = some (.string ⟨#[]⟩) := K2h.out.cell 4
  have f0 := K2h.out.free 0
  have f1 := K2h.out.free 1
  have f2 := K2h.out.free 2
  have f3 := K2h.out.free 3
  have f4 := K2h.out.free 4
  obtain ⟨W5, hW5, R5, B5, _, _⟩ := tok_put (u := w) (1) (0) (r.extract 0 m) (0) (⟨#[]⟩) K2h.out rfl (by rw [hy]; exact Nat.le_refl _) (by rw [hy]; exact B2h.out)
  have W5h := Lib.hid hW5
  have R5h := Lib.hid R5
  have B5h := Lib.hid B5
  clear hW5 R5 B5
  go_wp2_with fail
  rw [← W5h.out]
  have q0 : W5.cell? ⟨Y, 0, none⟩ = some (.int .i64 (1)) := R5h.out.cell 0
  have q1 : W5.cell? ⟨Y, 1, none⟩ = some (.int .i64 (0)) := R5h.out.cell 1
  have q2 : W5.cell? ⟨Y, 2, none⟩ = some (.string (r.extract 0 m)) := R5h.out.cell 2
  have q3 : W5.cell? ⟨Y, 3, none⟩ = some (.int .i64 (0)) := R5h.out.cell 3
  have q4 : W5.cell? ⟨Y, 4, none⟩ = some (.string (⟨#[]⟩)) := R5h.out.cell 4
  refine bodyPost_ret (v := tokV (1) (0) (r.extract 0 m) (0) (⟨#[]⟩)) (by simp [results, Tryd.results14, go_sem, q0, q1, q2, q3, q4, tokV]; try rfl) rfl ?_
  exact ⟨rfl, hy ▸ B5h.out⟩
theorem idx_pos {l : List UInt8} {c : UInt8} (h : c ∈ l) : 0 ≤ Lib.indexByte l c := by
  induction l with
  | nil => cases h
  | cons b l ih =>
    unfold Lib.indexByte
    split
    · decide
    · rename_i hb
      have hm : c ∈ l := by
        rcases List.mem_cons.1 h with rfl | h
        · simp at hb
        · exact h
      have := ih hm
      split
      · rename_i h2; simp at h2; omega
      · omega
theorem idx_neg {l : List UInt8} {c : UInt8} (h : ¬ c ∈ l) : Lib.indexByte l c = -1 := by
  induction l with
  | nil => rfl
  | cons b l ih =>
    unfold Lib.indexByte
    have hb : (b == c) = false := by
      simp only [beq_eq_false_iff_ne, ne_eq]
      rintro rfl
      exact h (List.mem_cons_self ..)
    rw [hb]
    have := ih (fun hc => h (List.mem_cons_of_mem _ hc))
    rw [this]; rfl
theorem u8_back (c : UInt8) : ((c.toNat : Int)).toNat.toUInt8 = c := by
  rw [Int.toNat_natCast]
  exact UInt8.ofNat_toNat
set_option maxHeartbeats 1000000 in
theorem sign_any (r : ByteArray) (h0 : 0 < r.size) (hr : r.size ≤ 4096) (w : World) : Calls Tryd.prog 19 #[.string r] w fun e w' => e = .returned ((signT r).val r) ∧ Below w.heap.size w w' := by
  obtain ⟨w1, hw1, K1, B1⟩ : ∃ w1, w1 = w.alloc (.cells #[.int .i64 0, .int .i64 0, .string ⟨#[]⟩, .int .i64 0, .string ⟨#[]⟩] 34) ∧ Blk w1 w.heap.size 34 #[.int .i64 0, .int .i64 0, .string ⟨#[]⟩, .int .i64 0, .string ⟨#[]⟩] ∧ Below w.heap.size w w1 := ⟨_, rfl, Blk.new w 34 _, (Below.refl _ w).alloc (Nat.le_refl _) _⟩
  have W1 := Lib.hid hw1
  have K1h := Lib.hid K1
  have B1h := Lib.hid B1
  clear hw1 K1 B1
  generalize hy : w.heap.size = Y at *
  have IX := Lib.hid (fun W => (Tryd.strings_IndexByte ⟨#[40, 41, 91, 93, 123, 125, 44, 59, 124, 42, 43, 63, 33, 61, 60, 62, 47]⟩ (r[0].toNat : Int) W).mono (fun e w' h => (⟨h.1, h.2.symm⟩ : _ ∧ W = w')))
  have IY := Lib.hid (fun W => (Tryd.strings_IndexByte ⟨#[33, 60, 62]⟩ (r[0].toNat : Int) W).mono (fun e w' h => (⟨h.1, h.2.symm⟩ : _ ∧ W = w')))
  rw [u8_back] at IX IY
  have IX : Hid (∀ W, Calls Tryd.prog 31 #[.string ⟨#[40, 41, 91, 93, 123, 125, 44, 59, 124, 42, 43, 63, 33, 61, 60, 62, 47]⟩, .int .u8 (r[0].toNat : Int)] W fun e w' => e = .returned (.int .i64 (Lib.indexByte signs r[0])) ∧ W = w') := IX
  have IY : Hid (∀ W, Calls Tryd.prog 31 #[.string ⟨#[33, 60, 62]⟩, .int .u8 (r[0].toNat : Int)] W fun e w' => e = .returned (.int .i64 (Lib.indexByte [33, 60, 62] r[0])) ∧ W = w') := IY
  have hR : Hid ((signT r).val r = if r[0] ∈ signs then (if twoB r then tokV 4 0 (r.extract 0 2) 0 ⟨#[]⟩ else tokV 4 0 (r.extract 0 1) 0 ⟨#[]⟩) else tokV 0 0 ⟨#[]⟩ 0 ⟨#[]⟩) := Lib.hid (by
    unfold signT T1.val
    rw [head_at r h0]
    split
    · split <;> rfl
    · show tokV 0 0 (r.extract 0 0) 0 ⟨#[]⟩ = _
      rw [extract_zero])
  have hT : Hid (twoB r = (decide (1 < r.size) && (decide ((bl r).getD 1 0 = 61) && decide (r[0] ∈ ([33, 60, 62] : List UInt8))))) := Lib.hid (by unfold twoB; rw [head_at r h0])
  have C1 := Lib.hid (token_any 4 (r.extract 0 1) (by rw [ByteArray.size_extract]; omega))
  have C2 := Lib.hid (token_any 4 (r.extract 0 2) (by rw [ByteArray.size_extract]; omega))
  unfold tokV at C1 C2
  generalize hV : (signT r).val r = V at *
  clear hV
  by_cases hs : r[0] ∈ signs
  · have hp := idx_pos hs
    have hp' : ¬ Lib.indexByte signs r[0] < 0 := by omega
    generalize Lib.indexByte signs r[0] = q at *
    rw [if_pos hs] at hR
    by_cases h1 : 1 < r.size
    · by_cases h2 : (r[1].toNat : Int) = 61
      · have e2 : decide ((bl r).getD 1 0 = 61) = true := by
          rw [decide_eq_true_eq, List.getD_eq_getElem?_getD, List.getElem?_eq_getElem (by rw [bl_len]; exact h1), Option.getD_some, bl_at r 1 h1]
          exact UInt8.toNat_inj.1 (by show r[1].toNat = 61; omega)
        by_cases h3 : r[0] ∈ ([33, 60, 62] : List UInt8)
        · have hq := idx_pos h3
          have RES : Hid (V = tokV 4 0 (r.extract 0 2) 0 ⟨#[]⟩) := Lib.hid (by rw [hR.out, hT.out, e2, decide_eq_true h1, decide_eq_true h3]; rfl)
          generalize Lib.indexByte [33, 60, 62] r[0] = q2 at *
          clear hR hT e2 hs h3
          have d1 : ((r[1].toNat : Int) == 61) = true := by simpa using h2
          clear h2
          go_enter Tryd.func19, Tryd.ntmps19
          go_wp2_with fail
          rw [← W1.out]
          refine (IX.out _).mono ?_
          rintro e w2 ⟨rfl, rfl⟩
          go_wp2_with fail
          refine (IY.out _).mono ?_
          rintro e w2 ⟨rfl, rfl⟩
          go_wp2_with fail
          refine (C2.out _).mono ?_
          rintro e w2 ⟨rfl, b2⟩
          have K2h := Lib.hid (K1h.out.below b2)
          have B2h := Lib.hid (B1h.out.trans (b2.mono (by have := K1h.out.lt; omega)))
          clear b2 d1
          have y0 : w2.cell? ⟨Y, 0, none⟩ = some (.int .i64 0) := K2h.out.cell 0
          have y1 : w2.cell? ⟨Y, 1, none⟩ = some (.int .i64 0) := K2h.out.cell 1
          have y2 : w2.cell? ⟨Y, 2, none⟩ = some (.string ⟨#[]⟩) := K2h.out.cell 2
          have y3 : w2.cell? ⟨Y, 3, none⟩ = some (.int .i64 0) := K2h.out.cell 3
          have y4 : w2.cell? ⟨Y, 4, none⟩ = some (.string ⟨#[]⟩) := K2h.out.cell 4
          have f0 := K2h.out.free 0
          have f1 := K2h.out.free 1
          have f2 := K2h.out.free 2
          have f3 := K2h.out.free 3
          have f4 := K2h.out.free 4
          obtain ⟨W5, hW5, R5, B5, _, _⟩ := tok_put (u := w) (4) (0) (r.extract 0 2) (0) (⟨#[]⟩) K2h.out rfl (by rw [hy]; exact Nat.le_refl _) (by rw [hy]; exact B2h.out)
          have W5h := Lib.hid hW5
          have R5h := Lib.hid R5
          have B5h := Lib.hid B5
          clear hW5 R5 B5
          go_wp2_with fail
          rw [← W5h.out]
          have q0 : W5.cell? ⟨Y, 0, none⟩ = some (.int .i64 (4)) := R5h.out.cell 0
          have q1 : W5.cell? ⟨Y, 1, none⟩ = some (.int .i64 (0)) := R5h.out.cell 1
          have q2 : W5.cell? ⟨Y, 2, none⟩ = some (.string (r.extract 0 2)) := R5h.out.cell 2
          have q3 : W5.cell? ⟨Y, 3, none⟩ = some (.int .i64 (0)) := R5h.out.cell 3
          have q4 : W5.cell? ⟨Y, 4, none⟩ = some (.string (⟨#[]⟩)) := R5h.out.cell 4
          refine bodyPost_ret (v := tokV (4) (0) (r.extract 0 2) (0) (⟨#[]⟩)) (by simp [results, Tryd.results19, go_sem, q0, q1, q2, q3, q4, tokV]; try rfl) rfl ?_
          exact ⟨by rw [RES.out], hy ▸ B5h.out⟩
        · have hq := idx_neg h3
          have RES : Hid (V = tokV 4 0 (r.extract 0 1) 0 ⟨#[]⟩) := Lib.hid (by rw [hR.out, hT.out, e2, decide_eq_true h1, decide_eq_false h3]; rfl)
          rw [hq] at IY
          clear hR hT e2 hs h3 hq
          have d1 : ((r[1].toNat : Int) == 61) = true := by simpa using h2
          clear h2
          go_enter Tryd.func19, Tryd.ntmps19
          go_wp2_with fail
          rw [← W1.out]
          refine (IX.out _).mono ?_
          rintro e w2 ⟨rfl, rfl⟩
          go_wp2_with fail
          refine (IY.out _).mono ?_
          rintro e w2 ⟨rfl, rfl⟩
          go_wp2_with fail
          refine (C1.out _).mono ?_
          rintro e w2 ⟨rfl, b2⟩
          have K2h := Lib.hid (K1h.out.below b2)
          have B2h := Lib.hid (B1h.out.trans (b2.mono (by have := K1h.out.lt; omega)))
          clear b2 d1
          have y0 : w2.cell? ⟨Y, 0, none⟩ = some (.int .i64 0) := K2h.out.cell 0
          have y1 : w2.cell? ⟨Y, 1, none⟩ = some (.int .i64 0) := K2h.out.cell 1
          have y2 : w2.cell? ⟨Y, 2, none⟩ = some (.string ⟨#[]⟩) := K2h.out.cell 2
          have y3 : w2.cell? ⟨Y, 3, none⟩ = some (.int .i64 0) := K2h.out.cell 3
          have y4 : w2.cell? ⟨Y, 4, none⟩ = some (.string ⟨#[]⟩) := K2h.out.cell 4
          have f0 := K2h.out.free 0
          have f1 := K2h.out.free 1
          have f2 := K2h.out.free 2
          have f3 := K2h.out.free 3
          have f4 := K2h.out.free 4
          obtain ⟨W5, hW5, R5, B5, _, _⟩ := tok_put (u := w) (4) (0) (r.extract 0 1) (0) (⟨#[]⟩) K2h.out rfl (by rw [hy]; exact Nat.le_refl _) (by rw [hy]; exact B2h.out)
          have W5h := Lib.hid hW5
          have R5h := Lib.hid R5
          have B5h := Lib.hid B5
          clear hW5 R5 B5
          go_wp2_with fail
          rw [← W5h.out]
          have q0 : W5.cell? ⟨Y, 0, none⟩ = some (.int .i64 (4)) := R5h.out.cell 0
          have q1 : W5.cell? ⟨Y, 1, none⟩ = some (.int .i64 (0)) := R5h.out.cell 1
          have q2 : W5.cell? ⟨Y, 2, none⟩ = some (.string (r.extract 0 1)) := R5h.out.cell 2
          have q3 : W5.cell? ⟨Y, 3, none⟩ = some (.int .i64 (0)) := R5h.out.cell 3
          have q4 : W5.cell? ⟨Y, 4, none⟩ = some (.string (⟨#[]⟩)) := R5h.out.cell 4
          refine bodyPost_ret (v := tokV (4) (0) (r.extract 0 1) (0) (⟨#[]⟩)) (by simp [results, Tryd.results19, go_sem, q0, q1, q2, q3, q4, tokV]; try rfl) rfl ?_
          exact ⟨by rw [RES.out], hy ▸ B5h.out⟩
      · have e2 : decide ((bl r).getD 1 0 = 61) = false := by
          rw [decide_eq_false_iff_not, List.getD_eq_getElem?_getD, List.getElem?_eq_getElem (by rw [bl_len]; exact h1), Option.getD_some, bl_at r 1 h1]
          intro e
          rw [e] at h2
          exact h2 rfl
        have RES : Hid (V = tokV 4 0 (r.extract 0 1) 0 ⟨#[]⟩) := Lib.hid (by rw [hR.out, hT.out, e2]; simp)
        clear hR hT e2 hs IY
        have d1 : ((r[1].toNat : Int) == 61) = false := by simpa using h2
        clear h2
        go_enter Tryd.func19, Tryd.ntmps19
        go_wp2_with fail
        rw [← W1.out]
        refine (IX.out _).mono ?_
        rintro e w2 ⟨rfl, rfl⟩
        go_wp2_with fail
        refine (C1.out _).mono ?_
        rintro e w2 ⟨rfl, b2⟩
        have K2h := Lib.hid (K1h.out.below b2)
        have B2h := Lib.hid (B1h.out.trans (b2.mono (by have := K1h.out.lt; omega)))
        clear b2 d1
        have y0 : w2.cell? ⟨Y, 0, none⟩ = some (.int .i64 0) := K2h.out.cell 0
        have y1 : w2.cell? ⟨Y, 1, none⟩ = some (.int .i64 0) := K2h.out.cell 1
        have y2 : w2.cell? ⟨Y, 2, none⟩ = some (.string ⟨#[]⟩) := K2h.out.cell 2
        have y3 : w2.cell? ⟨Y, 3, none⟩ = some (.int .i64 0) := K2h.out.cell 3
        have y4 : w2.cell? ⟨Y, 4, none⟩ = some (.string ⟨#[]⟩) := K2h.out.cell 4
        have f0 := K2h.out.free 0
        have f1 := K2h.out.free 1
        have f2 := K2h.out.free 2
        have f3 := K2h.out.free 3
        have f4 := K2h.out.free 4
        obtain ⟨W5, hW5, R5, B5, _, _⟩ := tok_put (u := w) (4) (0) (r.extract 0 1) (0) (⟨#[]⟩) K2h.out rfl (by rw [hy]; exact Nat.le_refl _) (by rw [hy]; exact B2h.out)
        have W5h := Lib.hid hW5
        have R5h := Lib.hid R5
        have B5h := Lib.hid B5
        clear hW5 R5 B5
        go_wp2_with fail
        rw [← W5h.out]
        have q0 : W5.cell? ⟨Y, 0, none⟩ = some (.int .i64 (4)) := R5h.out.cell 0
        have q1 : W5.cell? ⟨Y, 1, none⟩ = some (.int .i64 (0)) := R5h.out.cell 1
        have q2 : W5.cell? ⟨Y, 2, none⟩ = some (.string (r.extract 0 1)) := R5h.out.cell 2
        have q3 : W5.cell? ⟨Y, 3, none⟩ = some (.int .i64 (0)) := R5h.out.cell 3
        have q4 : W5.cell? ⟨Y, 4, none⟩ = some (.string (⟨#[]⟩)) := R5h.out.cell 4
        refine bodyPost_ret (v := tokV (4) (0) (r.extract 0 1) (0) (⟨#[]⟩)) (by simp [results, Tryd.results19, go_sem, q0, q1, q2, q3, q4, tokV]; try rfl) rfl ?_
        exact ⟨by rw [RES.out], hy ▸ B5h.out⟩
    · have RES : Hid (V = tokV 4 0 (r.extract 0 1) 0 ⟨#[]⟩) := Lib.hid (by rw [hR.out, hT.out, decide_eq_false h1]; simp)
      have h1' : ¬ (1 : Int) < (r.size : Int) := by omega
      clear hR hT hs IY
      go_enter Tryd.func19, Tryd.ntmps19
      go_wp2_with fail
      rw [← W1.out]
      refine (IX.out _).mono ?_
      rintro e w2 ⟨rfl, rfl⟩
      go_wp2_with fail
      refine (C1.out _).mono ?_
      rintro e w2 ⟨rfl, b2⟩
      have K2h := Lib.hid (K1h.out.below b2)
      have B2h := Lib.hid (B1h.out.trans (b2.mono (by have := K1h.out.lt; omega)))
      clear b2
      have y0 : w2.cell? ⟨Y, 0, none⟩ = some (.int .i64 0) := K2h.out.cell 0
      have y1 : w2.cell? ⟨Y, 1, none⟩ = some (.int .i64 0) := K2h.out.cell 1
      have y2 : w2.cell? ⟨Y, 2, none⟩ = some (.string ⟨#[]⟩) := K2h.out.cell 2
      have y3 : w2.cell? ⟨Y, 3, none⟩ = some (.int .i64 0) := K2h.out.cell 3
      have y4 : w2.cell? ⟨Y, 4, none⟩ = some (.string ⟨#[]⟩) := K2h.out.cell 4
      have f0 := K2h.out.free 0
      have f1 := K2h.out.free 1
      have f2 := K2h.out.free 2
      have f3 := K2h.out.free 3
      have f4 := K2h.out.free 4
      obtain ⟨W5, hW5, R5, B5, _, _⟩ := tok_put (u := w) (4) (0) (r.extract 0 1) (0) (⟨#[]⟩) K2h.out rfl (by rw [hy]; exact Nat.le_refl _) (by rw [hy]; exact B2h.out)
      have W5h := Lib.hid hW5
      have R5h := Lib.hid R5
      have B5h := Lib.hid B5
      clear hW5 R5 B5
      go_wp2_with fail
      rw [← W5h.out]
      have q0 : W5.cell? ⟨Y, 0, none⟩ = some (.int .i64 (4)) := R5h.out.cell 0
      have q1 : W5.cell? ⟨Y, 1, none⟩ = some (.int .i64 (0)) := R5h.out.cell 1
      have q2 : W5.cell? ⟨Y, 2, none⟩ = some (.string (r.extract 0 1)) := R5h.out.cell 2
      have q3 : W5.cell? ⟨Y, 3, none⟩ = some (.int .i64 (0)) := R5h.out.cell 3
      have q4 : W5.cell? ⟨Y, 4, none⟩ = some (.string (⟨#[]⟩)) := R5h.out.cell 4
      refine bodyPost_ret (v := tokV (4) (0) (r.extract 0 1) (0) (⟨#[]⟩)) (by simp [results, Tryd.results19, go_sem, q0, q1, q2, q3, q4, tokV]; try rfl) rfl ?_
      exact ⟨by rw [RES.out], hy ▸ B5h.out⟩
  · have hp := idx_neg hs
    have RES : Hid (V = tokV 0 0 ⟨#[]⟩ 0 ⟨#[]⟩) := Lib.hid (by rw [hR.out, if_neg hs])
    rw [hp] at IX
    clear hp hs IY hT hR
    go_enter Tryd.func19, Tryd.ntmps19
    go_wp2_with fail
    rw [← W1.out]
    refine (IX.out _).mono ?_
    rintro e w2 ⟨rfl, rfl⟩
    have y0 : w1.cell? ⟨Y, 0, none⟩ = some (.int .i64 0) := K1h.out.cell 0
    have y1 : w1.cell? ⟨Y, 1, none⟩ = some (.int .i64 0) := K1h.out.cell 1
    have y2 : w1.cell? ⟨Y, 2, none⟩ = some (.string ⟨#[]⟩) := K1h.out.cell 2
    have y3 : w1.cell? ⟨Y, 3, none⟩ = some (.int .i64 0) := K1h.out.cell 3
    have y4 : w1.cell? ⟨Y, 4, none⟩ = some (.string ⟨#[]⟩) := K1h.out.cell 4
    have f0 := K1h.out.free 0
    have f1 := K1h.out.free 1
    have f2 := K1h.out.free 2
    have f3 := K1h.out.free 3
    have f4 := K1h.out.free 4
    obtain ⟨W5, hW5, R5, B5, _, _⟩ := tok_put (u := w) (0) (0) (⟨#[]⟩) (0) (⟨#[]⟩) K1h.out rfl (by rw [hy]; exact Nat.le_refl _) (by rw [hy]; exact B1h.out)
    have W5h := Lib.hid hW5
    have R5h := Lib.hid R5
    have B5h := Lib.hid B5
    clear hW5 R5 B5
    go_wp2_with fail
    rw [← W5h.out]
    have q0 : W5.cell? ⟨Y, 0, none⟩ = some (.int .i64 (0)) := R5h.out.cell 0
    have q1 : W5.cell? ⟨Y, 1, none⟩ = some (.int .i64 (0)) := R5h.out.cell 1
    have q2 : W5.cell? ⟨Y, 2, none⟩ = some (.string (⟨#[]⟩)) := R5h.out.cell 2
    have q3 : W5.cell? ⟨Y, 3, none⟩ = some (.int .i64 (0)) := R5h.out.cell 3
    have q4 : W5.cell? ⟨Y, 4, none⟩ = some (.string (⟨#[]⟩)) := R5h.out.cell 4
    refine bodyPost_ret (v := tokV (0) (0) (⟨#[]⟩) (0) (⟨#[]⟩)) (by simp [results, Tryd.results19, go_sem, q0, q1, q2, q3, q4, tokV]; try rfl) rfl ?_
    exact ⟨by rw [RES.out], hy ▸ B5h.out⟩
end Go.Proofs.YtffneogphgodnaaDoor
