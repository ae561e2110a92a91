/-
  THE WALK OF read: one call of a tape and of the document's.
-/
import Derived.Test.YtpnkdpmhphhenaaRefs2
import Derived.Test.YtpnkdpmhphhenaaOneLaw
import Derived.Deep.RegionHeld3
namespace Go.Proofs.Ytpnkdpmhphhenaa
open Go.RowKit Go.Sort
theorem rend_any (s : ByteArray) (e : Int) (w : World) :
    Calls Try.prog 25 #[.agg #[.string s, .int .i64 e]] w fun r w' => r = .returned (.int .i64 (endE s e)) ∧ Below w.heap.size w w' := by
  by_cases he : e = 0
  · subst he
    by_cases hs : s.size = 0
    · have e0 : s = ⟨#[]⟩ := by
        apply ByteArray.ext
        exact Array.eq_empty_of_size_eq_zero hs
      subst e0
      go_enter Try.func25, Try.ntmps25
      go_wp2_with fail
      go_ret
      exact ⟨rfl, (Below.refl _ w).alloc (Nat.le_refl _) _⟩
    · have hne : s.toList.isEmpty = false := by
        rw [Lib.toList_data, head_drop s (by omega)]; rfl
      have hne2 : (!s.toList.isEmpty) = true := by rw [hne]; rfl
      go_enter Try.func25, Try.ntmps25
      go_wp2_with fail
      go_ret
      exact ⟨ret_i64 (by unfold endE; rw [if_neg (by simp), if_neg hs]), (Below.refl _ w).alloc (Nat.le_refl _) _⟩
  · have hEb : (e == 0) = false := by simp [he]
    go_enter Try.func25, Try.ntmps25
    go_wp2_with fail
    go_ret
    exact ⟨ret_i64 (by unfold endE; rw [if_pos he]), (Below.refl _ w).alloc (Nat.le_refl _) _⟩
/-- a tape of the document that may be stored to -/
def Live (w : World) (Y : Nat) : Prop := ∃ s e, BoxAt w Y s e
theorem BoxAt.live {w : World} {Y : Nat} {s : ByteArray} {e : Int} (h : BoxAt w Y s e) : Live w Y := ⟨s, e, h⟩
theorem Live.set0 {w : World} {Y : Nat} (h : Live w Y) (a : ByteArray) : Live (w.setCell ⟨Y, 0, none⟩ (.string a)) Y := by
  obtain ⟨s, e, h⟩ := h
  refine ⟨a, e, ?_⟩
  unfold BoxAt at *; simp [World.setCell, Array.getElem?_modify, h]
theorem Live.set1 {w : World} {Y : Nat} (h : Live w Y) (c : Int) : Live (w.setCell ⟨Y, 1, none⟩ (.int .i64 c)) Y := by
  obtain ⟨s, e, h⟩ := h
  refine ⟨s, c, ?_⟩
  unfold BoxAt at *; simp [World.setCell, Array.getElem?_modify, h]
/-- what lies there, behind a name -/
def at0 (w : World) (Y : Nat) : Value := (w.cell? ⟨Y, 0, none⟩).getD undef
def at1 (w : World) (Y : Nat) : Value := (w.cell? ⟨Y, 1, none⟩).getD undef
theorem Live.c0 {w : World} {Y : Nat} (h : Live w Y) : w.cell? ⟨Y, 0, none⟩ = some (at0 w Y) := by
  obtain ⟨s, e, h⟩ := h
  unfold at0; rw [h.c0]; rfl
theorem Live.c1 {w : World} {Y : Nat} (h : Live w Y) : w.cell? ⟨Y, 1, none⟩ = some (at1 w Y) := by
  obtain ⟨s, e, h⟩ := h
  unfold at1; rw [h.c1]; rfl
theorem Live.f {w : World} {Y : Nat} (h : Live w Y) (o : Nat) : w.frozen? ⟨Y, o, none⟩ = false := by
  obtain ⟨s, e, h⟩ := h
  exact h.f o
section
variable {v w w' : World} {b X Y : Nat} {s : ByteArray} {e : Int}
theorem BoxAt.grown (h : BoxAt w X s e) (hg : w.grownBy w' (some b)) (hne : X ≠ b) : BoxAt w' X s e := by
  have hl := h.lt
  unfold BoxAt at *
  rw [hg.block X hl (by simpa using hne)]; exact h
abbrev set2 (w : World) (Y : Nat) (a : ByteArray) (c : Int) : World := (w.setCell ⟨Y, 0, none⟩ (.string a)).setCell ⟨Y, 1, none⟩ (.int .i64 c)
theorem grownBy_below2 {r : Option Nat} (h : v.grownBy w r) (hb : Below w.heap.size w w') : v.grownBy w' r :=
  ⟨hb.os.trans h.os, hb.tape.trans h.tape, hb.output.trans h.output, Nat.le_trans h.size hb.size, fun k hk hr => (hb.block k (Nat.lt_of_lt_of_le hk h.size)).trans (h.block k hk hr)⟩
theorem grownBy_set2 {r : Option Nat} (h : v.grownBy w r) (hY : v.heap.size ≤ Y) (a : ByteArray) (c : Int) : v.grownBy (set2 w Y a c) r :=
  ⟨h.os, h.tape, h.output, by have := h.size; simpa using this, fun k hk hr => by
    have hne : k ≠ Y := by omega
    rw [Below.heap_setCell _ _ _ _ hne, Below.heap_setCell _ _ _ _ hne]; exact h.block k hk hr⟩
/-- what the region of read reads and writes -/
def St (v w : World) (b X Y : Nat) (s : ByteArray) (e : Int) : Prop := TapeAt w b s e ∧ BoxAt w X s e ∧ Live w Y ∧ b ≠ Y ∧ X ≠ Y ∧ v.grownBy w (some b) ∧ v.heap.size ≤ Y
theorem St.below (hb : Below w.heap.size w w') (h : St v w b X Y s e) : St v w' b X Y s e :=
  ⟨h.1.next hb, h.2.1.next hb, by obtain ⟨s0, e0, hY⟩ := h.2.2.1; exact (hY.next hb).live, h.2.2.2.1, h.2.2.2.2.1, grownBy_below2 h.2.2.2.2.2.1 hb, h.2.2.2.2.2.2⟩
theorem St.set (h : St v w b X Y s e) (a : ByteArray) (c : Int) : St v (set2 w Y a c) b X Y s e := by
  obtain ⟨h1, h2, h3, h4, h5, h6, h7⟩ := h
  refine ⟨(h1.other (Ne.symm h4) 0 _).other (Ne.symm h4) 1 _, ?_, (h3.set0 a).set1 c, h4, h5, grownBy_set2 h6 h7 a c, h7⟩
  unfold BoxAt at *
  rw [Below.heap_setCell _ _ _ _ h5, Below.heap_setCell _ _ _ _ h5]; exact h2
abbrev SS (v : World) (b X Y : Nat) (s : ByteArray) (e : Int) (w : World) : Prop := w.cell? ⟨X, 0, none⟩ = some (.string s) ∧ w.cell? ⟨X, 1, none⟩ = some (.int .i64 e) ∧ TapeAt w b s e ∧ w.cell? ⟨Y, 0, none⟩ = some (at0 w Y) ∧ w.cell? ⟨Y, 1, none⟩ = some (at1 w Y) ∧ w.frozen? ⟨Y, 0, none⟩ = false ∧ w.frozen? ⟨Y, 1, none⟩ = false ∧ St v w b X Y s e
theorem St.all (h : St v w b X Y s e) : SS v b X Y s e w := ⟨h.2.1.c0, h.2.1.c1, h.1, h.2.2.1.c0, h.2.2.1.c1, h.2.2.1.f 0, h.2.2.1.f 1, h⟩
theorem keepB (hb : Below w.heap.size w w') (h : St v w b X Y s e) : SS v b X Y s e w' := (h.below hb).all
theorem keepD (h : St v w b X Y s e) : SS v b X Y s e w.drew := keepB ((Below.refl w.heap.size w).drew) h
theorem SS.tape (h : SS v b X Y s e w) : TapeAt w b s e := h.2.2.1
theorem keepB2 (hb : Below w.heap.size w w') (h : SS v b X Y s e w) : SS v b X Y s e w' := keepB hb h.2.2.2.2.2.2.2
theorem keepR (a : ByteArray) (c : Int) (h : St v w b X Y s e) : SS v b X Y s e (set2 w Y a c) := (h.set a c).all
theorem keepR2 (a : ByteArray) (c : Int) (h : SS v b X Y s e w) : SS v b X Y s e (set2 w Y a c) := keepR a c h.2.2.2.2.2.2.2
/-- the end of read -/
theorem read_end (h : SS v b X Y s e w) (a : ByteArray) (c : Int) : ∃ w2, w2 = set2 w Y a c ∧ w2.cell? ⟨Y, 0, none⟩ = some (.string a) ∧ w2.cell? ⟨Y, 1, none⟩ = some (.int .i64 c) ∧ TapeAt w2 b s e ∧ v.grownBy w2 (some b) := by
  have hS := h.2.2.2.2.2.2.2
  obtain ⟨s0, e0, hL⟩ := hS.2.2.1
  have h2 := hS.set a c
  exact ⟨_, rfl, hL.set.c0, hL.set.c1, h2.1, h2.2.2.2.2.2.1⟩
theorem tk_le {α : Type} (z : α) (s : ByteArray) (e : Int) (r : α × Nat × Int) : (tk z s e r).2.1.size ≤ s.size := by
  unfold tk
  split
  · exact Nat.le_refl _
  · split
    · exact Nat.le_refl _
    · simp
end
set_option maxHeartbeats 8000000 in
theorem read_num {w : World} {b : Nat} {s : ByteArray} {e : Int} (h : TapeAt w b s e) (hs : s.size ≤ 281474976710656) (k most : Int) (k0 : 0 ≤ k) (k1 : k < 256) (hk : k % 5 = 0) :
    Calls Try.prog 26 #[.pointer (some ⟨b, 0, none⟩), .agg #[.string s, .int .i64 e], .int .i64 k, .int .i64 most] w fun r w' => ∃ s' e', s'.size ≤ s.size ∧ r = .returned (.tuple #[.agg #[.string s', .int .i64 e'], .bool true]) ∧ TapeAt w' b s' e' ∧ w.grownBy w' (some b) := by
  have hb := h.lt
  have HA := Lib.hid (rnumT_any s e hs)
  have HB := Lib.hid (fun (w : World) (h : TapeAt w b s e) => tapeNum_any h hs)
  have hle : (tNum s e).2.1.size ≤ s.size := tk_le _ _ _ _
  generalize tNum s e = T at *
  obtain ⟨N, s', e'⟩ := T
  have hs' : s'.size ≤ 281474976710656 := Nat.le_trans hle hs
  unfold rv vNum at HA
  unfold vNum at HB
  simp only at HA HB
  go_enter Try.func26, Try.ntmps26
  go_wp2_with fail
  refine (HA.out _).mono ?_
  rintro r w1 ⟨rfl, b1⟩
  have B1 := ((box_new w s e).alloc (.cells #[.string ⟨#[]⟩, .int .i64 0] 37)).next b1
  have B2 := (box_new1 w (.cells #[.string s, .int .i64 e] 37) ⟨#[]⟩ 0).next b1
  have bb : Below w.heap.size w w1 := (((Below.refl _ w).alloc (Nat.le_refl _) _).alloc (by simp) _).trans (b1.mono (by simp; omega))
  have hT1 := h.next bb
  clear b1
  have B3 := B1.alloc (.cells #[.string s', .int .i64 e'] 37)
  have B4 := B2.alloc (.cells #[.string s', .int .i64 e'] 37)
  have hT2 := hT1.next ((Below.refl _ w1).alloc (Nat.le_refl _) (.cells #[.string s', .int .i64 e'] 37))
  have x0 := B3.c0
  have x1 := B3.c1
  have xf0 := B3.f 0
  have xf1 := B3.f 1
  go_wp2_with fail
  obtain ⟨W, hW, hX, hY, hTW, bW, nY, nX⟩ : ∃ W, W = ((w1.alloc (.cells #[.string s', .int .i64 e'] 37)).setCell ⟨w.heap.size, 0, none⟩ (.string s')).setCell ⟨w.heap.size, 1, none⟩ (.int .i64 e') ∧ BoxAt W w.heap.size s' e' ∧ BoxAt W (w.heap.size + 1) ⟨#[]⟩ 0 ∧ TapeAt W b s e ∧ Below w.heap.size w W ∧ b ≠ w.heap.size + 1 ∧ b ≠ w.heap.size := by
    refine ⟨_, rfl, B3.set, ?_, ?_, ?_, by omega, by omega⟩
    · have hne : w.heap.size ≠ w.heap.size + 1 := by omega
      have := B4
      unfold BoxAt at *
      rw [Below.heap_setCell _ _ _ _ (by simp), Below.heap_setCell _ _ _ _ (by simp)]; exact this
    · have hne : w.heap.size ≠ b := by omega
      exact (hT2.other (by omega) 0 _).other (by omega) 1 _
    · exact ((bb.alloc bb.size _).setCell (p := ⟨w.heap.size, 0, none⟩) (Nat.le_refl _) _).setCell (p := ⟨w.heap.size, 1, none⟩) (Nat.le_refl _) _
  rw [← hW]
  refine (HB.out W hTW).mono ?_
  rintro r w3 ⟨rfl, hg, hT3⟩
  have hX3 : BoxAt w3 w.heap.size s' e' := hX.grown hg (fun e => nX e.symm)
  have hY3 : BoxAt w3 (w.heap.size + 1) ⟨#[]⟩ 0 := hY.grown hg (fun e => nY e.symm)
  have hS : St w w3 b w.heap.size (w.heap.size + 1) s' e' := ⟨hT3, hX3, hY3.live, nY, by omega, (grownBy_below bW (some b)).trans hg, by omega⟩
  go_wp2_with fail
  go_region_held3 (fun w' => w'.cell? ⟨w.heap.size, 0, none⟩ = some (.string s') ∧ w'.cell? ⟨w.heap.size, 1, none⟩ = some (.int .i64 e') ∧ TapeAt w' b s' e' ∧ w'.cell? ⟨w.heap.size + 1, 0, none⟩ = some (at0 w' (w.heap.size + 1)) ∧ w'.cell? ⟨w.heap.size + 1, 1, none⟩ = some (at1 w' (w.heap.size + 1)) ∧ w'.frozen? ⟨w.heap.size + 1, 0, none⟩ = false ∧ w'.frozen? ⟨w.heap.size + 1, 1, none⟩ = false ∧ St w w' b w.heap.size (w.heap.size + 1) s' e')
    (first | assumption | exact keepD (by assumption) | exact keepR _ _ (by assumption) | exact keepR2 _ _ (by assumption) | exact keepB (by assumption) (by assumption) | exact keepB2 (by assumption) (by assumption))
    (first | ((go_at_call 23; refine (rest_any (by first | assumption | exact SS.tape (by assumption)) (by assumption)).mono ?_; rintro r w4 ⟨rfl, b4⟩)) | ((go_at_call 29; refine (err_any (by first | assumption | exact SS.tape (by assumption))).mono ?_; rintro r w4 ⟨rfl, rfl⟩)) | ((go_at_call 24; refine (end_any (by first | assumption | exact SS.tape (by assumption))).mono ?_; rintro r w4 ⟨rfl, rfl⟩)) | ((go_at_call 25; refine (rend_any _ _ _).mono ?_; rintro r w4 ⟨rfl, b4⟩)))
  obtain ⟨w5, hw5, z0, z1, t5, g5⟩ := read_end (v := w) (b := b) (X := w.heap.size) (Y := w.heap.size + 1) (s := s') (e := e') (w := w4) (keepB b4 (St.below (by assumption) (St.below ((Below.refl _ _).drew) hS))) s' e'
  unfold set2 at hw5
  rw [← hw5]
  go_wp2_with fail
  refine bodyPost_ret (by simp [results, Try.results26, go_sem, z0, z1]; try rfl) rfl ?_
  exact ⟨s', e', hle, rfl, t5, g5⟩
set_option maxHeartbeats 8000000 in
theorem read_int {w : World} {b : Nat} {s : ByteArray} {e : Int} (h : TapeAt w b s e) (hs : s.size ≤ 281474976710656) (k most : Int) (k0 : 0 ≤ k) (k1 : k < 256) (hk : k % 5 = 1) :
    Calls Try.prog 26 #[.pointer (some ⟨b, 0, none⟩), .agg #[.string s, .int .i64 e], .int .i64 k, .int .i64 most] w fun r w' => ∃ s' e', s'.size ≤ s.size ∧ r = .returned (.tuple #[.agg #[.string s', .int .i64 e'], .bool true]) ∧ TapeAt w' b s' e' ∧ w.grownBy w' (some b) := by
  have hb := h.lt
  have HA := Lib.hid (rintT_any s e hs)
  have HB := Lib.hid (fun (w : World) (h : TapeAt w b s e) => tapeInt_any h hs)
  have hle : (tInt s e).2.1.size ≤ s.size := tk_le _ _ _ _
  generalize tInt s e = T at *
  obtain ⟨N, s', e'⟩ := T
  have hs' : s'.size ≤ 281474976710656 := Nat.le_trans hle hs
  unfold rv vInt at HA
  unfold vInt at HB
  simp only at HA HB
  go_enter Try.func26, Try.ntmps26
  go_wp2_with fail
  refine (HA.out _).mono ?_
  rintro r w1 ⟨rfl, b1⟩
  have B1 := ((box_new w s e).alloc (.cells #[.string ⟨#[]⟩, .int .i64 0] 37)).next b1
  have B2 := (box_new1 w (.cells #[.string s, .int .i64 e] 37) ⟨#[]⟩ 0).next b1
  have bb : Below w.heap.size w w1 := (((Below.refl _ w).alloc (Nat.le_refl _) _).alloc (by simp) _).trans (b1.mono (by simp; omega))
  have hT1 := h.next bb
  clear b1
  have B3 := B1.alloc (.cells #[.string s', .int .i64 e'] 37)
  have B4 := B2.alloc (.cells #[.string s', .int .i64 e'] 37)
  have hT2 := hT1.next ((Below.refl _ w1).alloc (Nat.le_refl _) (.cells #[.string s', .int .i64 e'] 37))
  have x0 := B3.c0
  have x1 := B3.c1
  have xf0 := B3.f 0
  have xf1 := B3.f 1
  go_wp2_with fail
  obtain ⟨W, hW, hX, hY, hTW, bW, nY, nX⟩ : ∃ W, W = ((w1.alloc (.cells #[.string s', .int .i64 e'] 37)).setCell ⟨w.heap.size, 0, none⟩ (.string s')).setCell ⟨w.heap.size, 1, none⟩ (.int .i64 e') ∧ BoxAt W w.heap.size s' e' ∧ BoxAt W (w.heap.size + 1) ⟨#[]⟩ 0 ∧ TapeAt W b s e ∧ Below w.heap.size w W ∧ b ≠ w.heap.size + 1 ∧ b ≠ w.heap.size := by
    refine ⟨_, rfl, B3.set, ?_, ?_, ?_, by omega, by omega⟩
    · have hne : w.heap.size ≠ w.heap.size + 1 := by omega
      have := B4
      unfold BoxAt at *
      rw [Below.heap_setCell _ _ _ _ (by simp), Below.heap_setCell _ _ _ _ (by simp)]; exact this
    · have hne : w.heap.size ≠ b := by omega
      exact (hT2.other (by omega) 0 _).other (by omega) 1 _
    · exact ((bb.alloc bb.size _).setCell (p := ⟨w.heap.size, 0, none⟩) (Nat.le_refl _) _).setCell (p := ⟨w.heap.size, 1, none⟩) (Nat.le_refl _) _
  rw [← hW]
  refine (HB.out W hTW).mono ?_
  rintro r w3 ⟨rfl, hg, hT3⟩
  have hX3 : BoxAt w3 w.heap.size s' e' := hX.grown hg (fun e => nX e.symm)
  have hY3 : BoxAt w3 (w.heap.size + 1) ⟨#[]⟩ 0 := hY.grown hg (fun e => nY e.symm)
  have hS : St w w3 b w.heap.size (w.heap.size + 1) s' e' := ⟨hT3, hX3, hY3.live, nY, by omega, (grownBy_below bW (some b)).trans hg, by omega⟩
  go_wp2_with fail
  go_region_held3 (fun w' => w'.cell? ⟨w.heap.size, 0, none⟩ = some (.string s') ∧ w'.cell? ⟨w.heap.size, 1, none⟩ = some (.int .i64 e') ∧ TapeAt w' b s' e' ∧ w'.cell? ⟨w.heap.size + 1, 0, none⟩ = some (at0 w' (w.heap.size + 1)) ∧ w'.cell? ⟨w.heap.size + 1, 1, none⟩ = some (at1 w' (w.heap.size + 1)) ∧ w'.frozen? ⟨w.heap.size + 1, 0, none⟩ = false ∧ w'.frozen? ⟨w.heap.size + 1, 1, none⟩ = false ∧ St w w' b w.heap.size (w.heap.size + 1) s' e')
    (first | assumption | exact keepD (by assumption) | exact keepR _ _ (by assumption) | exact keepR2 _ _ (by assumption) | exact keepB (by assumption) (by assumption) | exact keepB2 (by assumption) (by assumption))
    (first | ((go_at_call 23; refine (rest_any (by first | assumption | exact SS.tape (by assumption)) (by assumption)).mono ?_; rintro r w4 ⟨rfl, b4⟩)) | ((go_at_call 29; refine (err_any (by first | assumption | exact SS.tape (by assumption))).mono ?_; rintro r w4 ⟨rfl, rfl⟩)) | ((go_at_call 24; refine (end_any (by first | assumption | exact SS.tape (by assumption))).mono ?_; rintro r w4 ⟨rfl, rfl⟩)) | ((go_at_call 25; refine (rend_any _ _ _).mono ?_; rintro r w4 ⟨rfl, b4⟩)))
  obtain ⟨w5, hw5, z0, z1, t5, g5⟩ := read_end (v := w) (b := b) (X := w.heap.size) (Y := w.heap.size + 1) (s := s') (e := e') (w := w4) (keepB b4 (St.below (by assumption) (St.below ((Below.refl _ _).drew) hS))) s' e'
  unfold set2 at hw5
  rw [← hw5]
  go_wp2_with fail
  refine bodyPost_ret (by simp [results, Try.results26, go_sem, z0, z1]; try rfl) rfl ?_
  exact ⟨s', e', hle, rfl, t5, g5⟩
set_option maxHeartbeats 8000000 in
theorem read_real {w : World} {b : Nat} {s : ByteArray} {e : Int} (h : TapeAt w b s e) (hs : s.size ≤ 281474976710656) (k most : Int) (k0 : 0 ≤ k) (k1 : k < 256) (hk : k % 5 = 2) :
    Calls Try.prog 26 #[.pointer (some ⟨b, 0, none⟩), .agg #[.string s, .int .i64 e], .int .i64 k, .int .i64 most] w fun r w' => ∃ s' e', s'.size ≤ s.size ∧ r = .returned (.tuple #[.agg #[.string s', .int .i64 e'], .bool true]) ∧ TapeAt w' b s' e' ∧ w.grownBy w' (some b) := by
  have hb := h.lt
  have HA := Lib.hid (rrealT_any s e hs)
  have HB := Lib.hid (fun (w : World) (h : TapeAt w b s e) => tapeReal_any h hs)
  have hle : (tReal s e).2.1.size ≤ s.size := tk_le _ _ _ _
  generalize tReal s e = T at *
  obtain ⟨N, s', e'⟩ := T
  have hs' : s'.size ≤ 281474976710656 := Nat.le_trans hle hs
  unfold rv vReal at HA
  unfold vReal at HB
  simp only at HA HB
  go_enter Try.func26, Try.ntmps26
  go_wp2_with fail
  refine (HA.out _).mono ?_
  rintro r w1 ⟨rfl, b1⟩
  have B1 := ((box_new w s e).alloc (.cells #[.string ⟨#[]⟩, .int .i64 0] 37)).next b1
  have B2 := (box_new1 w (.cells #[.string s, .int .i64 e] 37) ⟨#[]⟩ 0).next b1
  have bb : Below w.heap.size w w1 := (((Below.refl _ w).alloc (Nat.le_refl _) _).alloc (by simp) _).trans (b1.mono (by simp; omega))
  have hT1 := h.next bb
  clear b1
  have B3 := B1.alloc (.cells #[.string s', .int .i64 e'] 37)
  have B4 := B2.alloc (.cells #[.string s', .int .i64 e'] 37)
  have hT2 := hT1.next ((Below.refl _ w1).alloc (Nat.le_refl _) (.cells #[.string s', .int .i64 e'] 37))
  have x0 := B3.c0
  have x1 := B3.c1
  have xf0 := B3.f 0
  have xf1 := B3.f 1
  go_wp2_with fail
  obtain ⟨W, hW, hX, hY, hTW, bW, nY, nX⟩ : ∃ W, W = ((w1.alloc (.cells #[.string s', .int .i64 e'] 37)).setCell ⟨w.heap.size, 0, none⟩ (.string s')).setCell ⟨w.heap.size, 1, none⟩ (.int .i64 e') ∧ BoxAt W w.heap.size s' e' ∧ BoxAt W (w.heap.size + 1) ⟨#[]⟩ 0 ∧ TapeAt W b s e ∧ Below w.heap.size w W ∧ b ≠ w.heap.size + 1 ∧ b ≠ w.heap.size := by
    refine ⟨_, rfl, B3.set, ?_, ?_, ?_, by omega, by omega⟩
    · have hne : w.heap.size ≠ w.heap.size + 1 := by omega
      have := B4
      unfold BoxAt at *
      rw [Below.heap_setCell _ _ _ _ (by simp), Below.heap_setCell _ _ _ _ (by simp)]; exact this
    · have hne : w.heap.size ≠ b := by omega
      exact (hT2.other (by omega) 0 _).other (by omega) 1 _
    · exact ((bb.alloc bb.size _).setCell (p := ⟨w.heap.size, 0, none⟩) (Nat.le_refl _) _).setCell (p := ⟨w.heap.size, 1, none⟩) (Nat.le_refl _) _
  rw [← hW]
  refine (HB.out W hTW).mono ?_
  rintro r w3 ⟨rfl, hg, hT3⟩
  have hX3 : BoxAt w3 w.heap.size s' e' := hX.grown hg (fun e => nX e.symm)
  have hY3 : BoxAt w3 (w.heap.size + 1) ⟨#[]⟩ 0 := hY.grown hg (fun e => nY e.symm)
  have hS : St w w3 b w.heap.size (w.heap.size + 1) s' e' := ⟨hT3, hX3, hY3.live, nY, by omega, (grownBy_below bW (some b)).trans hg, by omega⟩
  go_wp2_with fail
  refine (rbits_any _ _).mono ?_
  rintro r w7 ⟨rfl, rfl⟩
  go_wp2_with fail
  refine (rbits_any _ _).mono ?_
  rintro r w7 ⟨rfl, rfl⟩
  go_wp2_with fail
  go_region_held3 (fun w' => w'.cell? ⟨w.heap.size, 0, none⟩ = some (.string s') ∧ w'.cell? ⟨w.heap.size, 1, none⟩ = some (.int .i64 e') ∧ TapeAt w' b s' e' ∧ w'.cell? ⟨w.heap.size + 1, 0, none⟩ = some (at0 w' (w.heap.size + 1)) ∧ w'.cell? ⟨w.heap.size + 1, 1, none⟩ = some (at1 w' (w.heap.size + 1)) ∧ w'.frozen? ⟨w.heap.size + 1, 0, none⟩ = false ∧ w'.frozen? ⟨w.heap.size + 1, 1, none⟩ = false ∧ St w w' b w.heap.size (w.heap.size + 1) s' e')
    (first | assumption | exact keepD (by assumption) | exact keepR _ _ (by assumption) | exact keepR2 _ _ (by assumption) | exact keepB (by assumption) (by assumption) | exact keepB2 (by assumption) (by assumption))
    (first | ((go_at_call 23; refine (rest_any (by first | assumption | exact SS.tape (by assumption)) (by assumption)).mono ?_; rintro r w4 ⟨rfl, b4⟩)) | ((go_at_call 29; refine (err_any (by first | assumption | exact SS.tape (by assumption))).mono ?_; rintro r w4 ⟨rfl, rfl⟩)) | ((go_at_call 24; refine (end_any (by first | assumption | exact SS.tape (by assumption))).mono ?_; rintro r w4 ⟨rfl, rfl⟩)) | ((go_at_call 25; refine (rend_any _ _ _).mono ?_; rintro r w4 ⟨rfl, b4⟩)))
  obtain ⟨w5, hw5, z0, z1, t5, g5⟩ := read_end (v := w) (b := b) (X := w.heap.size) (Y := w.heap.size + 1) (s := s') (e := e') (w := w4) (keepB b4 (St.below (by assumption) (St.below ((Below.refl _ _).drew) hS))) s' e'
  unfold set2 at hw5
  rw [← hw5]
  go_wp2_with fail
  refine bodyPost_ret (by simp [results, Try.results26, go_sem, z0, z1]; try rfl) rfl ?_
  exact ⟨s', e', hle, rfl, t5, g5⟩
set_option maxHeartbeats 8000000 in
theorem read_text {w : World} {b : Nat} {s : ByteArray} {e : Int} (h : TapeAt w b s e) (hs : s.size ≤ 281474976710656) (k most : Int) (m0 : -9223372036854775808 ≤ most) (m1 : most ≤ 9223372036854775807) (k0 : 0 ≤ k) (k1 : k < 256) (hk : k % 5 = 3) :
    Calls Try.prog 26 #[.pointer (some ⟨b, 0, none⟩), .agg #[.string s, .int .i64 e], .int .i64 k, .int .i64 most] w fun r w' => ∃ s' e', s'.size ≤ s.size ∧ r = .returned (.tuple #[.agg #[.string s', .int .i64 e'], .bool true]) ∧ TapeAt w' b s' e' ∧ w.grownBy w' (some b) := by
  have hb := h.lt
  have HA := Lib.hid (rtextT_any s e most hs m1)
  have HB := Lib.hid (fun (w : World) (h : TapeAt w b s e) => tapeText_any h hs m0 m1)
  have hle : (tText s e most).2.1.size ≤ s.size := tk_le _ _ _ _
  generalize tText s e most = T at *
  obtain ⟨N, s', e'⟩ := T
  have hs' : s'.size ≤ 281474976710656 := Nat.le_trans hle hs
  unfold rv vText at HA
  unfold vText at HB
  simp only at HA HB
  go_enter Try.func26, Try.ntmps26
  go_wp2_with fail
  refine (HA.out _).mono ?_
  rintro r w1 ⟨rfl, b1⟩
  have B1 := ((box_new w s e).alloc (.cells #[.string ⟨#[]⟩, .int .i64 0] 37)).next b1
  have B2 := (box_new1 w (.cells #[.string s, .int .i64 e] 37) ⟨#[]⟩ 0).next b1
  have bb : Below w.heap.size w w1 := (((Below.refl _ w).alloc (Nat.le_refl _) _).alloc (by simp) _).trans (b1.mono (by simp; omega))
  have hT1 := h.next bb
  clear b1
  have B3 := B1.alloc (.cells #[.string s', .int .i64 e'] 37)
  have B4 := B2.alloc (.cells #[.string s', .int .i64 e'] 37)
  have hT2 := hT1.next ((Below.refl _ w1).alloc (Nat.le_refl _) (.cells #[.string s', .int .i64 e'] 37))
  have x0 := B3.c0
  have x1 := B3.c1
  have xf0 := B3.f 0
  have xf1 := B3.f 1
  go_wp2_with fail
  obtain ⟨W, hW, hX, hY, hTW, bW, nY, nX⟩ : ∃ W, W = ((w1.alloc (.cells #[.string s', .int .i64 e'] 37)).setCell ⟨w.heap.size, 0, none⟩ (.string s')).setCell ⟨w.heap.size, 1, none⟩ (.int .i64 e') ∧ BoxAt W w.heap.size s' e' ∧ BoxAt W (w.heap.size + 1) ⟨#[]⟩ 0 ∧ TapeAt W b s e ∧ Below w.heap.size w W ∧ b ≠ w.heap.size + 1 ∧ b ≠ w.heap.size := by
    refine ⟨_, rfl, B3.set, ?_, ?_, ?_, by omega, by omega⟩
    · have hne : w.heap.size ≠ w.heap.size + 1 := by omega
      have := B4
      unfold BoxAt at *
      rw [Below.heap_setCell _ _ _ _ (by simp), Below.heap_setCell _ _ _ _ (by simp)]; exact this
    · have hne : w.heap.size ≠ b := by omega
      exact (hT2.other (by omega) 0 _).other (by omega) 1 _
    · exact ((bb.alloc bb.size _).setCell (p := ⟨w.heap.size, 0, none⟩) (Nat.le_refl _) _).setCell (p := ⟨w.heap.size, 1, none⟩) (Nat.le_refl _) _
  rw [← hW]
  refine (HB.out W hTW).mono ?_
  rintro r w3 ⟨rfl, hg, hT3⟩
  have hX3 : BoxAt w3 w.heap.size s' e' := hX.grown hg (fun e => nX e.symm)
  have hY3 : BoxAt w3 (w.heap.size + 1) ⟨#[]⟩ 0 := hY.grown hg (fun e => nY e.symm)
  have hS : St w w3 b w.heap.size (w.heap.size + 1) s' e' := ⟨hT3, hX3, hY3.live, nY, by omega, (grownBy_below bW (some b)).trans hg, by omega⟩
  go_wp2_with fail
  go_region_held3 (fun w' => w'.cell? ⟨w.heap.size, 0, none⟩ = some (.string s') ∧ w'.cell? ⟨w.heap.size, 1, none⟩ = some (.int .i64 e') ∧ TapeAt w' b s' e' ∧ w'.cell? ⟨w.heap.size + 1, 0, none⟩ = some (at0 w' (w.heap.size + 1)) ∧ w'.cell? ⟨w.heap.size + 1, 1, none⟩ = some (at1 w' (w.heap.size + 1)) ∧ w'.frozen? ⟨w.heap.size + 1, 0, none⟩ = false ∧ w'.frozen? ⟨w.heap.size + 1, 1, none⟩ = false ∧ St w w' b w.heap.size (w.heap.size + 1) s' e')
    (first | assumption | exact keepD (by assumption) | exact keepR _ _ (by assumption) | exact keepR2 _ _ (by assumption) | exact keepB (by assumption) (by assumption) | exact keepB2 (by assumption) (by assumption))
    (first | ((go_at_call 23; refine (rest_any (by first | assumption | exact SS.tape (by assumption)) (by assumption)).mono ?_; rintro r w4 ⟨rfl, b4⟩)) | ((go_at_call 29; refine (err_any (by first | assumption | exact SS.tape (by assumption))).mono ?_; rintro r w4 ⟨rfl, rfl⟩)) | ((go_at_call 24; refine (end_any (by first | assumption | exact SS.tape (by assumption))).mono ?_; rintro r w4 ⟨rfl, rfl⟩)) | ((go_at_call 25; refine (rend_any _ _ _).mono ?_; rintro r w4 ⟨rfl, b4⟩)))
  obtain ⟨w5, hw5, z0, z1, t5, g5⟩ := read_end (v := w) (b := b) (X := w.heap.size) (Y := w.heap.size + 1) (s := s') (e := e') (w := w4) (keepB b4 (St.below (by assumption) (St.below ((Below.refl _ _).drew) hS))) s' e'
  unfold set2 at hw5
  rw [← hw5]
  go_wp2_with fail
  refine bodyPost_ret (by simp [results, Try.results26, go_sem, z0, z1]; try rfl) rfl ?_
  exact ⟨s', e', hle, rfl, t5, g5⟩
set_option maxHeartbeats 8000000 in
theorem read_flag {w : World} {b : Nat} {s : ByteArray} {e : Int} (h : TapeAt w b s e) (hs : s.size ≤ 281474976710656) (k most : Int) (k0 : 0 ≤ k) (k1 : k < 256) (hk : k % 5 = 4) :
    Calls Try.prog 26 #[.pointer (some ⟨b, 0, none⟩), .agg #[.string s, .int .i64 e], .int .i64 k, .int .i64 most] w fun r w' => ∃ s' e', s'.size ≤ s.size ∧ r = .returned (.tuple #[.agg #[.string s', .int .i64 e'], .bool true]) ∧ TapeAt w' b s' e' ∧ w.grownBy w' (some b) := by
  have hb := h.lt
  have HA := Lib.hid (rflagT_any s e)
  have HB := Lib.hid (fun (w : World) (h : TapeAt w b s e) => tapeFlag_any h hs)
  have hle : (tFlag s e).2.1.size ≤ s.size := tk_le _ _ _ _
  generalize tFlag s e = T at *
  obtain ⟨N, s', e'⟩ := T
  have hs' : s'.size ≤ 281474976710656 := Nat.le_trans hle hs
  unfold rv vFlag at HA
  unfold vFlag at HB
  simp only at HA HB
  go_enter Try.func26, Try.ntmps26
  go_wp2_with fail
  refine (HA.out _).mono ?_
  rintro r w1 ⟨rfl, b1⟩
  have B1 := ((box_new w s e).alloc (.cells #[.string ⟨#[]⟩, .int .i64 0] 37)).next b1
  have B2 := (box_new1 w (.cells #[.string s, .int .i64 e] 37) ⟨#[]⟩ 0).next b1
  have bb : Below w.heap.size w w1 := (((Below.refl _ w).alloc (Nat.le_refl _) _).alloc (by simp) _).trans (b1.mono (by simp; omega))
  have hT1 := h.next bb
  clear b1
  have B3 := B1.alloc (.cells #[.string s', .int .i64 e'] 37)
  have B4 := B2.alloc (.cells #[.string s', .int .i64 e'] 37)
  have hT2 := hT1.next ((Below.refl _ w1).alloc (Nat.le_refl _) (.cells #[.string s', .int .i64 e'] 37))
  have x0 := B3.c0
  have x1 := B3.c1
  have xf0 := B3.f 0
  have xf1 := B3.f 1
  go_wp2_with fail
  obtain ⟨W, hW, hX, hY, hTW, bW, nY, nX⟩ : ∃ W, W = ((w1.alloc (.cells #[.string s', .int .i64 e'] 37)).setCell ⟨w.heap.size, 0, none⟩ (.string s')).setCell ⟨w.heap.size, 1, none⟩ (.int .i64 e') ∧ BoxAt W w.heap.size s' e' ∧ BoxAt W (w.heap.size + 1) ⟨#[]⟩ 0 ∧ TapeAt W b s e ∧ Below w.heap.size w W ∧ b ≠ w.heap.size + 1 ∧ b ≠ w.heap.size := by
    refine ⟨_, rfl, B3.set, ?_, ?_, ?_, by omega, by omega⟩
    · have hne : w.heap.size ≠ w.heap.size + 1 := by omega
      have := B4
      unfold BoxAt at *
      rw [Below.heap_setCell _ _ _ _ (by simp), Below.heap_setCell _ _ _ _ (by simp)]; exact this
    · have hne : w.heap.size ≠ b := by omega
      exact (hT2.other (by omega) 0 _).other (by omega) 1 _
    · exact ((bb.alloc bb.size _).setCell (p := ⟨w.heap.size, 0, none⟩) (Nat.le_refl _) _).setCell (p := ⟨w.heap.size, 1, none⟩) (Nat.le_refl _) _
  rw [← hW]
  refine (HB.out W hTW).mono ?_
  rintro r w3 ⟨rfl, hg, hT3⟩
  have hX3 : BoxAt w3 w.heap.size s' e' := hX.grown hg (fun e => nX e.symm)
  have hY3 : BoxAt w3 (w.heap.size + 1) ⟨#[]⟩ 0 := hY.grown hg (fun e => nY e.symm)
  have hS : St w w3 b w.heap.size (w.heap.size + 1) s' e' := ⟨hT3, hX3, hY3.live, nY, by omega, (grownBy_below bW (some b)).trans hg, by omega⟩
  go_wp2_with fail
  go_region_held3 (fun w' => w'.cell? ⟨w.heap.size, 0, none⟩ = some (.string s') ∧ w'.cell? ⟨w.heap.size, 1, none⟩ = some (.int .i64 e') ∧ TapeAt w' b s' e' ∧ w'.cell? ⟨w.heap.size + 1, 0, none⟩ = some (at0 w' (w.heap.size + 1)) ∧ w'.cell? ⟨w.heap.size + 1, 1, none⟩ = some (at1 w' (w.heap.size + 1)) ∧ w'.frozen? ⟨w.heap.size + 1, 0, none⟩ = false ∧ w'.frozen? ⟨w.heap.size + 1, 1, none⟩ = false ∧ St w w' b w.heap.size (w.heap.size + 1) s' e')
    (first | assumption | exact keepD (by assumption) | exact keepR _ _ (by assumption) | exact keepR2 _ _ (by assumption) | exact keepB (by assumption) (by assumption) | exact keepB2 (by assumption) (by assumption))
    (first | ((go_at_call 23; refine (rest_any (by first | assumption | exact SS.tape (by assumption)) (by assumption)).mono ?_; rintro r w4 ⟨rfl, b4⟩)) | ((go_at_call 29; refine (err_any (by first | assumption | exact SS.tape (by assumption))).mono ?_; rintro r w4 ⟨rfl, rfl⟩)) | ((go_at_call 24; refine (end_any (by first | assumption | exact SS.tape (by assumption))).mono ?_; rintro r w4 ⟨rfl, rfl⟩)) | ((go_at_call 25; refine (rend_any _ _ _).mono ?_; rintro r w4 ⟨rfl, b4⟩)))
  obtain ⟨w5, hw5, z0, z1, t5, g5⟩ := read_end (v := w) (b := b) (X := w.heap.size) (Y := w.heap.size + 1) (s := s') (e := e') (w := w4) (keepB b4 (St.below (by assumption) (St.below ((Below.refl _ _).drew) hS))) s' e'
  unfold set2 at hw5
  rw [← hw5]
  go_wp2_with fail
  refine bodyPost_ret (by simp [results, Try.results26, go_sem, z0, z1]; try rfl) rfl ?_
  exact ⟨s', e', hle, rfl, t5, g5⟩
end Go.Proofs.Ytpnkdpmhphhenaa
