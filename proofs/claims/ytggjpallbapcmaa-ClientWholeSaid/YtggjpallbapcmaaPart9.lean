/-
  WHAT THE ROWS REST ON, part 9: Awk Rd0 Clb Brs.
-/
import Derived.Test.YtggjpallbapcmaaPart8
/-
  THE PAGE's EXAMPLE.
-/
namespace Go.Proofs.Ytggjpallbapcmaa
open Go.RowKit
theorem aw_chk : chkB 1 1 0 ⟨#[97]⟩ [] = true := by decide +kernel
theorem aw_chk4 : chkB 4 1 0 ⟨#[97]⟩ [] = true := by decide +kernel
theorem aw_txt : askS 4 (0 + 1) 0 ⟨#[97]⟩ [] = ⟨#[2, 4, 1, 0, 1, 97, 0]⟩ := by decide +kernel
/-- what the page's first event leaves -/
def AwA (w : World) (t : Nat) (W : World) (id : Int) (to : Int) : Prop :=
  ∃ g cap rv p cp, Blk W t 98 (tel 2 to id 0 (.slice (some ⟨g, 0, none⟩) 1 cap) rv) ∧ t = w.heap.size ∧ t < g ∧ g < W.heap.size ∧ Below w.heap.size w W ∧
    W.cell? ⟨g, 0, none⟩ = some (.int .i64 0) ∧ W.cell? ⟨g, 1, none⟩ = some (.int .i64 0) ∧ W.cell? ⟨g, 2, none⟩ = some (.int .i64 0) ∧ W.cell? ⟨g, 3, none⟩ = some (.string ⟨#[97]⟩) ∧ W.cell? ⟨g, 4, none⟩ = some (.slice p 0 cp)
theorem AwA.set {w : World} {t : Nat} {W W' : World} {id to id' to' : Int} (h : AwA w t W id to) (T : ∀ g cap rv, Blk W t 98 (tel 2 to id 0 (.slice (some ⟨g, 0, none⟩) 1 cap) rv) → Blk W' t 98 (tel 2 to' id' 0 (.slice (some ⟨g, 0, none⟩) 1 cap) rv)) (f : Fr W W' (fun q => q = t)) : AwA w t W' id' to' := by
  obtain ⟨g, cap, rv, p, cp, hT, ht, hg, hgs, hb, c0, c1, c2, c3, c4⟩ := h
  exact ⟨g, cap, rv, p, cp, T _ _ _ hT, ht, hg, Nat.lt_of_lt_of_le hgs f.size, hb.trans (f.below (fun q hq => by omega) hb.size), f.cell hgs (by omega) c0, f.cell hgs (by omega) c1, f.cell hgs (by omega) c2, f.cell hgs (by omega) c3, f.cell hgs (by omega) c4⟩
theorem AwA.next {w : World} {t : Nat} {W W' : World} {id to : Int} (h : AwA w t W id to) (b : Below W.heap.size W W') : AwA w t W' id to := by
  have hlt : ∀ g cap rv, Blk W t 98 (tel 2 to id 0 (.slice (some ⟨g, 0, none⟩) 1 cap) rv) → Blk W' t 98 (tel 2 to id 0 (.slice (some ⟨g, 0, none⟩) 1 cap) rv) := fun g cap rv hT => hT.below b
  exact h.set hlt (Fr.of_below b _)
theorem aw_new (w : World) : Calls Try.prog 7 #[.int .i64 2] w fun e w' => e = .returned (.pointer (some ⟨w.heap.size, 0, none⟩)) ∧ Blk w' w.heap.size 98 (tel 2 0 0 0 (.slice none 0 0) (.slice none 0 0)) ∧ Below w.heap.size w w' := tel_new 2 (by decide) w
theorem aw_add {w0 w : World} (T : Blk w w0.heap.size 98 (tel 2 0 0 0 (.slice none 0 0) (.slice none 0 0))) (hb : Below w0.heap.size w0 w) :
    Calls Try.prog 11 #[.pointer (some ⟨w0.heap.size, 0, none⟩), evV 0 0 0 ⟨#[97]⟩ (.slice none 0 0)] w fun e w' => e = .returned (.int .i64 0) ∧ AwA w0 w0.heap.size w' 0 0 := by
  have hlt := T.lt
  refine (add_ok (B := w.heap.size) (L := []) (p := none) (cp := 0) (ua := none) (uc := 0) (n := 0) (cs := []) T hlt (Nat.le_refl _) (World.ownsRow_nil _ _ _ _) (by omega) ?_ ?_).mono ?_
  · intro W _
    have h := check_any 1 1 0 ⟨#[97]⟩ none 0 [] W (by simp) (by decide) (fun i hi => by simp at hi) (fun x hx => by cases hx)
    rw [aw_chk] at h
    exact h
  · intro W _
    exact copR_nil 0 0 0 ⟨#[97]⟩ (by decide) W
  · rintro e w' ⟨rfl, g, cap, p, cp, T', ho, hF, hp, f, _⟩
    have CA : ∀ i u, (encE 0 0 0 ⟨#[97]⟩ (.slice p ([] : List Fld).length cp))[i]? = some u → w'.cell? ⟨g, i, none⟩ = some u := fun i u hu => by
      rw [World.ownsRow.cellAt ho _ (by have := (List.getElem?_eq_some_iff.1 hu).1; simpa [encE] using this)]
      exact hu
    refine ⟨rfl, g, cap, _, p, cp, T', rfl, ?_, ?_, ?_, CA 0 _ rfl, CA 1 _ rfl, CA 2 _ rfl, CA 3 _ rfl, CA 4 _ rfl⟩
    · have := (World.ownsRow.lt ho g rfl).1; omega
    · exact (World.ownsRow.lt ho g rfl).2
    · refine hb.trans (f.below (fun q hq => ?_) hb.size)
      rcases hq with rfl | hq
      · exact Nat.le_refl _
      · simp [Value.ownBlock] at hq
theorem aw_ask0 {w0 w : World} {t : Nat} (h : AwA w0 t w 0 0) : Calls Try.prog 34 #[.pointer (some ⟨t, 0, none⟩)] w fun e w' => e = .returned (.tuple #[askV 0 ⟨#[1]⟩ ⟨#[]⟩ 0 0, .bool true]) ∧ AwA w0 t w' 0 0 ∧ Fr w w' (fun q => q = t) := by
  have h0 := h
  obtain ⟨g, cap, rv, p, cp, hT, _⟩ := h
  exact (ask_open hT (by omega)).mono fun e w' ⟨he, b⟩ => ⟨he, h0.next b, Fr.of_below b _⟩
theorem aw_told {w0 w : World} {t : Nat} (h : AwA w0 t w 0 0) (lead : Int) : Calls Try.prog 13 #[.pointer (some ⟨t, 0, none⟩), .agg #[.int .i64 0, .int .i64 4], .int .i64 lead] w fun e w' => e = .returned (.tuple #[]) ∧ AwA w0 t w' 4 0 ∧ Fr w w' (fun q => q = t) := by
  have h0 := h
  obtain ⟨g, cap, rv, p, cp, hT, ht, hg, hgs, hb, c0, c1, c2, c3, c4⟩ := h
  refine (told_opens (m := 4) (lead := lead) hT (by omega) (by omega)).mono fun e w' ⟨he, T', f⟩ => ⟨he, ?_, f⟩
  exact ⟨g, cap, rv, p, cp, T', ht, hg, Nat.lt_of_lt_of_le hgs f.size, hb.trans (f.below (fun q hq => by omega) hb.size), f.cell hgs (by omega) c0, f.cell hgs (by omega) c1, f.cell hgs (by omega) c2, f.cell hgs (by omega) c3, f.cell hgs (by omega) c4⟩
theorem aw_late {w0 w : World} {t : Nat} (h : AwA w0 t w 4 0) : Calls Try.prog 15 #[.pointer (some ⟨t, 0, none⟩)] w fun e w' => e = .returned (.tuple #[]) ∧ AwA w0 t w' 4 1 ∧ Fr w w' (fun q => q = t) := by
  obtain ⟨g, cap, rv, p, cp, hT, ht, hg, hgs, hb, c0, c1, c2, c3, c4⟩ := h
  refine (late_any hT (by omega) (by omega)).mono fun e w' ⟨he, T', f⟩ => ⟨he, ?_, f⟩
  exact ⟨g, cap, rv, p, cp, T', ht, hg, Nat.lt_of_lt_of_le hgs f.size, hb.trans (f.below (fun q hq => by omega) hb.size), f.cell hgs (by omega) c0, f.cell hgs (by omega) c1, f.cell hgs (by omega) c2, f.cell hgs (by omega) c3, f.cell hgs (by omega) c4⟩
theorem aw_ask {w0 w : World} {t : Nat} {to : Int} (h : AwA w0 t w 4 to) : Calls Try.prog 34 #[.pointer (some ⟨t, 0, none⟩)] w fun e w' => e = .returned (.tuple #[askV to ⟨#[2, 4, 1, 0, 1, 97, 0]⟩ ⟨#[]⟩ 0 0, .bool true]) ∧ AwA w0 t w' 4 to ∧ Fr w w' (fun q => q = t) := by
  have h0 := h
  obtain ⟨g, cap, rv, p, cp, hT, ht, hg, hgs, hb, c0, c1, c2, c3, c4⟩ := h
  have A := ask_event (L := []) hT (by omega) (by omega) (by omega) c0 c1 c2 c3 c4 hgs (fun W _ => write_event 4 (0 + 1) 0 ⟨#[97]⟩ p cp [] W (by simp) (by decide) (fun i hi => by simp at hi) (fun x hx => by cases hx) (fun x hx => by cases hx) (by omega) (by omega) aw_chk4 (by decide +kernel))
  rw [aw_txt] at A
  exact A.mono fun e w' ⟨he, b⟩ => ⟨he, h0.next b, Fr.of_below b _⟩
set_option maxHeartbeats 2000000 in
set_option maxRecDepth 100000 in
theorem awake_any (w : World) : Calls Try.prog 8 #[] w fun e w' => e = .returned (.bool true) ∧ Below w.heap.size w w' := by
  have N := Lib.hid (aw_new w)
  have A1 := Lib.hid (fun W T b => aw_add (w0 := w) (w := W) T b)
  have A2 := Lib.hid (fun W (h : AwA w w.heap.size W 0 0) => aw_ask0 h)
  have A3 := Lib.hid (fun W (h : AwA w w.heap.size W 0 0) => aw_told h (-1))
  have A4 := Lib.hid (fun W (h : AwA w w.heap.size W 4 0) => aw_ask h)
  have A5 := Lib.hid (fun W (h : AwA w w.heap.size W 4 0) => aw_late h)
  have A6 := Lib.hid (fun W (h : AwA w w.heap.size W 4 1) => aw_ask h)
  have NX := Lib.hid (fun (W W' : World) (id to : Int) (h : AwA w w.heap.size W id to) (b : Below W.heap.size W W') => h.next b)
  have SZ := Lib.hid (fun (W : World) (id to : Int) (h : AwA w w.heap.size W id to) => (show w.heap.size < W.heap.size ∧ Below w.heap.size w W from ⟨by obtain ⟨g, _, _, _, _, _, _, h1, h2, _⟩ := h; omega, by obtain ⟨g, _, _, _, _, _, _, _, _, h3, _⟩ := h; exact h3⟩))
  unfold evV at A1
  unfold askV at A2 A4 A6
  generalize hAw : AwA w w.heap.size = M at *
  clear hAw
  generalize hy : w.heap.size = Y at *
  go_enter Try.func8, Try.ntmps8
  go_wp2_with fail
  refine N.out.mono ?_
  rintro e w1 ⟨rfl, T1, b1⟩
  have T1 := Lib.hid T1
  have b1 := Lib.hid b1
  go_wp2_with fail
  refine (A1.out _ T1.out b1.out).mono ?_
  rintro e w2 ⟨rfl, m2⟩
  clear T1 b1
  go_wp2_with fail
  refine (A2.out _ m2).mono ?_
  rintro e w3 ⟨rfl, m3, _⟩
  clear m2
  go_wp2_with fail
  have al := fun (W : World) o => (Below.refl W.heap.size W).alloc (Nat.le_refl _) o
  obtain ⟨W3, hW3, M3, X3⟩ : ∃ W3, W3 = w3.alloc (.cells #[.int .i64 0, .string ⟨#[1]⟩, .string ⟨#[]⟩, .int .i64 0, .int .i64 0] 63) ∧ M W3 0 0 ∧ Blk W3 w3.heap.size 63 #[.int .i64 0, .string ⟨#[1]⟩, .string ⟨#[]⟩, .int .i64 0, .int .i64 0] := ⟨_, rfl, NX.out _ _ _ _ m3 (al _ _), Blk.new _ _ _⟩
  rw [← hW3]
  have Y3 : w3.heap.size ≠ Y := by have := (SZ.out _ _ _ m3).1; omega
  have X3 := Lib.hid X3
  generalize w3.heap.size = y3 at *
  clear hW3 m3
  refine (A3.out _ M3).mono ?_
  rintro e w4 ⟨rfl, m4, f4⟩
  have X4 := Lib.hid (X3.out.fr f4 Y3)
  clear X3 f4 M3
  go_wp2_with fail
  refine (A4.out _ m4).mono ?_
  rintro e w5 ⟨rfl, m5, f5⟩
  have X5 := Lib.hid (X4.out.fr f5 Y3)
  clear X4 f5 m4
  go_wp2_with fail
  obtain ⟨W5, hW5, M5, Z5, b5⟩ : ∃ W5, W5 = w5.alloc (.cells #[.int .i64 0, .string ⟨#[2, 4, 1, 0, 1, 97, 0]⟩, .string ⟨#[]⟩, .int .i64 0, .int .i64 0] 63) ∧ M W5 4 0 ∧ Blk W5 w5.heap.size 63 #[.int .i64 0, .string ⟨#[2, 4, 1, 0, 1, 97, 0]⟩, .string ⟨#[]⟩, .int .i64 0, .int .i64 0] ∧ Below w5.heap.size w5 W5 := ⟨_, rfl, NX.out _ _ _ _ m5 (al _ _), Blk.new _ _ _, al _ _⟩
  rw [← hW5]
  have X5 := Lib.hid (X5.out.below b5)
  have Y5 : w5.heap.size ≠ Y := by have := (SZ.out _ _ _ m5).1; omega
  have Z5 := Lib.hid Z5
  clear hW5 m5 b5
  generalize w5.heap.size = y5 at *
  refine (A5.out _ M5).mono ?_
  rintro e w6 ⟨rfl, m6, f6⟩
  have X6 := Lib.hid (X5.out.fr f6 Y3)
  have Z6 := Lib.hid (Z5.out.fr f6 Y5)
  clear X5 Z5 f6 M5
  go_wp2_with fail
  refine (A6.out _ m6).mono ?_
  rintro e w7 ⟨rfl, m7, f7⟩
  have X7 := Lib.hid (X6.out.fr f7 Y3)
  have Z7 := Lib.hid (Z6.out.fr f7 Y5)
  clear X6 Z6 f7 m6
  go_upto_region 8 with fail
  obtain ⟨W7, hW7, V7, b7⟩ : ∃ W7, W7 = w7.alloc (.cells #[.int .i64 1, .string ⟨#[2, 4, 1, 0, 1, 97, 0]⟩, .string ⟨#[]⟩, .int .i64 0, .int .i64 0] 63) ∧ Blk W7 w7.heap.size 63 #[.int .i64 1, .string ⟨#[2, 4, 1, 0, 1, 97, 0]⟩, .string ⟨#[]⟩, .int .i64 0, .int .i64 0] ∧ Below w7.heap.size w7 W7 := ⟨_, rfl, Blk.new _ _ _, al _ _⟩
  rw [← hW7]
  have x0 : W7.cell? ⟨y3, 0, none⟩ = some (.int .i64 0) := (X7.out.below b7).cell 0
  have x1 : W7.cell? ⟨y3, 1, none⟩ = some (.string ⟨#[1]⟩) := (X7.out.below b7).cell 1
  have z0 : W7.cell? ⟨y5, 0, none⟩ = some (.int .i64 0) := (Z7.out.below b7).cell 0
  have z1 : W7.cell? ⟨y5, 1, none⟩ = some (.string ⟨#[2, 4, 1, 0, 1, 97, 0]⟩) := (Z7.out.below b7).cell 1
  have v0 : W7.cell? ⟨w7.heap.size, 0, none⟩ = some (.int .i64 1) := V7.cell 0
  have v1 : W7.cell? ⟨w7.heap.size, 1, none⟩ = some (.string ⟨#[2, 4, 1, 0, 1, 97, 0]⟩) := V7.cell 1
  have FIN := Lib.hid (show Below Y w W7 from (SZ.out _ _ _ (NX.out _ _ _ _ m7 b7)).2)
  clear V7 X7 Z7 b7 m7 hW7 N A1 A2 A3 A4 A5 A6 NX SZ al
  generalize w7.heap.size = y7 at *
  go_wp2_with fail
  go_ret
  exact ⟨rfl, FIN.out⟩
end Go.Proofs.Ytggjpallbapcmaa
/-
  A READER IN MEMORY: NewReader, ahead, At, Gone, Ask, Late.
-/
namespace Go.Proofs.Ytggjpallbapcmaa
open Go.RowKit
section
variable {A B C : World}
theorem bel_on (h : Below A.heap.size A B) (k : Below B.heap.size B C) : Below A.heap.size A C := h.trans (k.mono h.size)
theorem bel_al (h : Below A.heap.size A B) (o : Obj) : Below A.heap.size A (B.alloc o) := h.alloc h.size o
theorem bel_dr (h : Below A.heap.size A B) : Below A.heap.size A B.drew := h.drew
theorem bel_set (h : Below A.heap.size A B) {X : Nat} (hX : A.heap.size ≤ X) (i : Nat) (u : Value) : Below A.heap.size A (B.setCell ⟨X, i, none⟩ u) := h.setCell (p := ⟨X, i, none⟩) hX u
end
/-- a reader's cells -/
def rdr (nodes to : Int) (nm : ByteArray) (most at_ gone : Int) (gv : Value) : Array Value := #[.int .i64 nodes, .int .i64 to, .string nm, .int .i64 most, .int .i64 at_, .int .i64 gone, gv]
def mayR (nodes : Int) (nm : ByteArray) (most : Int) : Bool := manyB nodes && (wordB nm && decide (1 ≤ most))
set_option maxHeartbeats 1000000 in
set_option maxRecDepth 100000 in
theorem rdr_newN (nodes : Int) (nm : ByteArray) (most : Int) (hk : nm.size ≤ 9223372036854775807) (h : mayR nodes nm most = false) (w : World) : Calls Try.prog 17 #[.int .i64 nodes, .string nm, .int .i64 most] w fun e w' => e = .returned (.pointer none) ∧ w = w' := by
  have M := many_any nodes
  have W := word_any nm hk
  unfold mayR at h
  generalize manyB nodes = b1 at *
  generalize wordB nm = b2 at *
  cases b1
  · go_enter Try.func17, Try.ntmps17
    go_wp2_with fail
    refine (M _).mono ?_
    rintro e w1 ⟨rfl, rfl⟩
    go_wp2_with fail
    go_ret
    exact ⟨rfl, rfl⟩
  · cases b2
    · go_enter Try.func17, Try.ntmps17
      go_wp2_with fail
      refine (M _).mono ?_
      rintro e w1 ⟨rfl, rfl⟩
      go_wp2_with fail
      refine (W _).mono ?_
      rintro e w1 ⟨rfl, rfl⟩
      go_wp2_with fail
      go_ret
      exact ⟨rfl, rfl⟩
    · have hm : most < 1 := by
        simp only [Bool.true_and, decide_eq_false_iff_not] at h
        omega
      clear h
      go_enter Try.func17, Try.ntmps17
      go_wp2_with fail
      refine (M _).mono ?_
      rintro e w1 ⟨rfl, rfl⟩
      go_wp2_with fail
      refine (W _).mono ?_
      rintro e w1 ⟨rfl, rfl⟩
      go_wp2_with fail
      go_ret
      exact ⟨rfl, rfl⟩
set_option maxHeartbeats 1000000 in
set_option maxRecDepth 100000 in
theorem rdr_new (nodes : Int) (nm : ByteArray) (most : Int) (h : mayR nodes nm most = true) (w : World) : Calls Try.prog 17 #[.int .i64 nodes, .string nm, .int .i64 most] w fun e w' => ∃ t, e = .returned (.pointer (some ⟨t, 0, none⟩)) ∧ w.heap.size ≤ t ∧ Blk w' t 119 (rdr nodes 0 nm most 0 0 (.slice none 0 0)) ∧ Below w.heap.size w w' := by
  have M := many_any nodes
  unfold mayR at h
  simp only [Bool.and_eq_true, decide_eq_true_eq] at h
  obtain ⟨h1, h2, h3⟩ := h
  have hs := wordB_size h2
  have W := word_any nm (by omega)
  rw [h1] at M
  rw [h2] at W
  have SC := Lib.hid (fun W => str_clone nm W (by omega))
  have hm : ¬ most < 1 := by omega
  have FIN := Lib.hid (fun (w1 : World) (b : Below w.heap.size w w1) => show Blk (w1.alloc (.cells (rdr nodes 0 nm most 0 0 (.slice none 0 0)) 119)) w1.heap.size 119 (rdr nodes 0 nm most 0 0 (.slice none 0 0)) ∧ Below w.heap.size w (w1.alloc (.cells (rdr nodes 0 nm most 0 0 (.slice none 0 0)) 119)) from ⟨Blk.new _ _ _, b.alloc b.size _⟩)
  clear h1 h2 hs
  go_enter Try.func17, Try.ntmps17
  go_wp2_with fail
  refine (M _).mono ?_
  rintro e w1 ⟨rfl, rfl⟩
  go_wp2_with fail
  refine (W _).mono ?_
  rintro e w1 ⟨rfl, rfl⟩
  go_wp2_with fail
  refine (SC.out _).mono ?_
  rintro e w2 ⟨rfl, b2⟩
  have B2 := Lib.hid b2
  clear b2
  go_wp2_with fail
  go_ret
  exact ⟨_, rfl, B2.out.size, FIN.out _ B2.out⟩
section
variable {w : World} {t : Nat} {nodes to most at_ gone : Int} {nm : ByteArray} {gv : Value}
theorem rat_any (T : Blk w t 119 (rdr nodes to nm most at_ gone gv)) : Calls Try.prog 24 #[.pointer (some ⟨t, 0, none⟩)] w fun e w' => e = .returned (.int .i64 at_) ∧ w = w' := by
  have c4 : w.cell? ⟨t, 4, none⟩ = some (.int .i64 at_) := T.cell 4
  clear T
  go_enter Try.func24, Try.ntmps24
  go_wp2_with fail
  go_ret
  exact ⟨rfl, rfl⟩
theorem rgone_any (T : Blk w t 119 (rdr nodes to nm most at_ gone gv)) : Calls Try.prog 25 #[.pointer (some ⟨t, 0, none⟩)] w fun e w' => e = .returned (.int .i64 gone) ∧ w = w' := by
  have c5 : w.cell? ⟨t, 5, none⟩ = some (.int .i64 gone) := T.cell 5
  clear T
  go_enter Try.func25, Try.ntmps25
  go_wp2_with fail
  go_ret
  exact ⟨rfl, rfl⟩
def aheadN (at_ n : Int) : Int := if n < at_ then -1 else n - at_
theorem ahead_any (T : Blk w t 119 (rdr nodes to nm most at_ gone gv)) (n : Int) (ha : 0 ≤ at_) (hn : n ≤ 9223372036854775807) : Calls Try.prog 54 #[.pointer (some ⟨t, 0, none⟩), .int .i64 n] w fun e w' => e = .returned (.int .i64 (aheadN at_ n)) ∧ w = w' := by
  have c4 : w.cell? ⟨t, 4, none⟩ = some (.int .i64 at_) := T.cell 4
  unfold aheadN
  clear T
  by_cases h : n < at_
  · rw [if_pos h]
    go_enter Try.func54, Try.ntmps54
    go_wp2_with fail
    go_ret
    exact ⟨rfl, rfl⟩
  · rw [if_neg h]
    have hd : decide (n < at_) = false := by simp; omega
    have hw : wrap64 (n - at_) = n - at_ := by unfold wrap64; omega
    go_enter Try.func54, Try.ntmps54
    go_wp2_with fail
    go_ret
    exact ⟨rfl, rfl⟩
theorem rlate_any (T : Blk w t 119 (rdr nodes to nm most at_ gone gv)) (ht : 0 ≤ to ∧ to ≤ 100) (hn : nodes ≤ 100) :
    Calls Try.prog 22 #[.pointer (some ⟨t, 0, none⟩)] w fun e w' => e = .returned (.tuple #[]) ∧ Blk w' t 119 (rdr nodes (nextN to nodes) nm most at_ gone gv) ∧ Fr w w' (fun q => q = t) := by
  have NX := Lib.hid (next_any T rfl rfl ht hn)
  clear T
  go_enter Try.func22, Try.ntmps22
  go_wp2_with fail
  refine NX.out.mono ?_
  rintro e w1 ⟨rfl, T1, f1⟩
  have T1 := Lib.hid T1
  have f1 := Lib.hid f1
  go_wp2_with fail
  go_end0
  exact ⟨rfl, T1.out, f1.out⟩
set_option maxHeartbeats 4000000 in
set_option maxRecDepth 100000 in
theorem rask_any (T : Blk w t 119 (rdr nodes to nm most at_ gone gv)) (hs : nm.size ≤ 281474976710656) : Calls Try.prog 23 #[.pointer (some ⟨t, 0, none⟩)] w fun e w' => e = .returned (.tuple #[askV to ⟨#[]⟩ nm at_ most, .bool true]) ∧ Below w.heap.size w w' := by
  obtain ⟨w1, hw1, K1, B1, hs1⟩ : ∃ w1, w1 = w.alloc (.cells #[.int .i64 0, .string ⟨#[]⟩, .string ⟨#[]⟩, .int .i64 0, .int .i64 0] 63) ∧ Blk w1 w.heap.size 63 #[.int .i64 0, .string ⟨#[]⟩, .string ⟨#[]⟩, .int .i64 0, .int .i64 0] ∧ Below w.heap.size w w1 ∧ w1.heap.size = w.heap.size + 1 :=
    ⟨_, rfl, heap_alloc_new w _, (Below.refl w.heap.size w).alloc (Nat.le_refl _) _, by simp⟩
  have W1 := Lib.hid hw1
  have SO : Hid (∀ v, Below w.heap.size w v → v.cell? ⟨t, 1, none⟩ = some (.int .i64 to) ∧ v.cell? ⟨t, 2, none⟩ = some (.string nm) ∧ v.cell? ⟨t, 3, none⟩ = some (.int .i64 most) ∧ v.cell? ⟨t, 4, none⟩ = some (.int .i64 at_) ∧ Below w.heap.size w v) := Lib.hid fun v b => ⟨(T.below b).cell 1, (T.below b).cell 2, (T.below b).cell 3, (T.below b).cell 4, b⟩
  have K1h := Lib.hid (show Blk w1.drew w.heap.size 63 #[.int .i64 0, .string ⟨#[]⟩, .string ⟨#[]⟩, .int .i64 0, .int .i64 0] from K1)
  have BD := bel_dr B1
  have S1 := SO.out _ BD
  have z0 : w1.drew.cell? ⟨w.heap.size, 0, none⟩ = some (.int .i64 0) := K1.cell 0
  have z1 : w1.drew.cell? ⟨w.heap.size, 1, none⟩ = some (.string ⟨#[]⟩) := K1.cell 1
  have z2 : w1.drew.cell? ⟨w.heap.size, 2, none⟩ = some (.string ⟨#[]⟩) := K1.cell 2
  have z3 : w1.drew.cell? ⟨w.heap.size, 3, none⟩ = some (.int .i64 0) := K1.cell 3
  have z4 : w1.drew.cell? ⟨w.heap.size, 4, none⟩ = some (.int .i64 0) := K1.cell 4
  have hz1 : w.heap.size < w1.drew.heap.size := by show w.heap.size < w1.heap.size; omega
  have SC := Lib.hid (fun W => str_clone nm W hs)
  clear T K1 B1 hw1 hs1
  unfold askV
  go_enter Try.func23, Try.ntmps23
  go_wp2_with fail
  rw [← W1.out]
  go_region_held3 (fun w' => w'.cell? ⟨t, 1, none⟩ = some (.int .i64 to) ∧ w'.cell? ⟨t, 2, none⟩ = some (.string nm) ∧ w'.cell? ⟨t, 3, none⟩ = some (.int .i64 most) ∧ w'.cell? ⟨t, 4, none⟩ = some (.int .i64 at_) ∧ Below w.heap.size w w')
    (first | (with_reducible exact S1) | (refine SO.out _ ?_; (repeat (with_reducible first | assumption | exact Below.refl _ _ | refine bel_dr ?_ | refine bel_al ?_ _ | refine bel_set ?_ (Nat.le_refl _) _ _)); done))
    ((go_at_call 53; (with_reducible refine (SC.out _).mono ?_); rintro r w2 ⟨rfl, b2⟩; have f2 : Below w.heap.size w w2 := bel_on (by (repeat (with_reducible first | assumption | exact Below.refl _ _ | refine bel_dr ?_ | refine bel_al ?_ _))) b2; have KV := K1h.out.below b2; have z0 : w2.cell? ⟨w.heap.size, 0, none⟩ = some (.int .i64 0) := KV.cell 0; have z1 : w2.cell? ⟨w.heap.size, 1, none⟩ = some (.string ⟨#[]⟩) := KV.cell 1; have z2 : w2.cell? ⟨w.heap.size, 2, none⟩ = some (.string ⟨#[]⟩) := KV.cell 2; have z3 : w2.cell? ⟨w.heap.size, 3, none⟩ = some (.int .i64 0) := KV.cell 3; have z4 : w2.cell? ⟨w.heap.size, 4, none⟩ = some (.int .i64 0) := KV.cell 4; have fz : ∀ i, w2.frozen? ⟨w.heap.size, i, none⟩ = false := KV.free))
  all_goals (
    go_wp2_with fail
    refine bodyPost_ret (by simp [results, Try.results23, go_sem, z0, z1, z2, z3, z4]; try rfl) rfl ?_
    exact ⟨rfl, below5 f2 (Nat.le_refl _) _ _ _ _ _⟩)
end
end Go.Proofs.Ytggjpallbapcmaa
/-
  slices.Clone of numbers, however many may be; a match and its number: client.got.
-/
namespace Go.Proofs.Ytggjpallbapcmaa.Bk
open Go.RowKit
set_option maxHeartbeats 4000000 in
set_option maxRecDepth 100000 in
theorem clone_big {w : World} {a : Option Addr} {L : List Int} (c : Nat) (h : Nums w a L) (hl : L.length ≤ 17592186043904) : Calls Try.prog 79 #[.slice a L.length c] w (Cln w L) := by
  obtain ⟨i0, hi, hz0, hz1, hz2⟩ : ∃ i, Try.prog.info? 3 = some i ∧ i.zero = some (.int .i64 0) ∧ i.size = 1 ∧ i.bytes = 8 := by
    have h3 := info3
    cases e : Try.prog.info? 3 with
    | none => rw [e] at h3; cases h3
    | some i => rw [e] at h3; simp only [Option.map_some, Option.some.injEq, Prod.mk.injEq] at h3; exact ⟨i, rfl, h3.1, h3.2.1, h3.2.2⟩
  have q29 : ∀ (w : World) (a : Option Addr) (n c n' c' : Nat), (binOp .eql 55 (.slice a n c) (.slice none n' c')).run Try.prog w = .ok (.bool a.isNone) w := fun w a n c n' c' => Lib.run_eql_slice_nil w _ _ a n c n' c' Try.underlying55
  cases a with
  | none =>
    have hL : L = [] := by
      cases L with
      | nil => rfl
      | cons x r => obtain ⟨g, o, e, _⟩ := h 0 (by simp); cases e
    subst hL
    have FIN := Lib.hid (show Cln w [] (.returned (.slice none 0 0)) w from ⟨_, rfl, World.ownsRow_nil _ _ _ _, Below.refl _ _⟩)
    generalize Cln w [] = Q at *
    clear h
    go_enter Try.func79, Try.ntmps79
    go_wp2_with fail
    exact FIN.out
  | some ad =>
    obtain ⟨W1, hW1⟩ : ∃ W1, W1 = w.alloc (.cells #[] 3) := ⟨_, rfl⟩
    have O1 : W1.ownsRow w.heap.size 3 1 (.slice (some ⟨w.heap.size, 0, none⟩) 0 0) 0 [] := by rw [hW1]; exact World.ownsRow_made w #[] 0 (Nat.le_refl _) (Nat.zero_le _) rfl
    have b1 : Below w.heap.size w W1 := by rw [hW1]; exact (Below.refl _ w).alloc (Nat.le_refl _) _
    have G1 := h.next b1
    have N1 : ∀ j u, (L.map (Value.int .i64))[j]? = some u → W1.cell? (ad.add j) = some u := by
      intro j u hj
      rw [List.getElem?_map] at hj
      obtain ⟨x, hx, rfl⟩ := Option.map_eq_some_iff.1 hj
      obtain ⟨hjl, rfl⟩ := List.getElem?_eq_some_iff.1 hx
      obtain ⟨g, o, e, hg, ck⟩ := G1 j hjl
      cases e
      rw [show (⟨g, o, none⟩ : Addr).add j = ⟨g, o + j, none⟩ by unfold Addr.add; split <;> simp_all]
      exact ck
    have FIN : Hid (∀ v' w1, w1.ownsRow w.heap.size 3 1 v' (0 + L.length) ([] ++ L.map (Value.int .i64)) → W1.grownBy w1 (Value.slice (some ⟨w.heap.size, 0, none⟩) 0 0).ownBlock → Cln w L (.returned v') w1) := Lib.hid fun v' w1 ho hg => by
      rw [Nat.zero_add, List.nil_append] at ho
      exact ⟨v', rfl, ho, b1.trans ⟨hg.os, hg.tape, hg.output, hg.size, fun q hq => hg.block q (Nat.lt_of_lt_of_le hq b1.size) (fun e => absurd (show q = w.heap.size by simpa [Value.ownBlock] using e) (Nat.ne_of_lt hq))⟩⟩
    have hz : W1.heap.size = w.heap.size + 1 := by rw [hW1]; simp
    have HN := Lib.hid N1
    have HO := Lib.hid O1
    have HW := Lib.hid hW1
    have HL : Hid ((L.map (Value.int .i64)).length = L.length * 1) := Lib.hid (by simp)
    have H1 : Hid (∀ u ∈ L.map (Value.int .i64), u.oneCell' = true) := Lib.hid (fun u hu => by obtain ⟨x, _, rfl⟩ := List.mem_map.1 hu; rfl)
    have hl2 : (L.length : Int) ≤ 17592186043904 := by omega
    clear h O1 b1 G1 N1 hW1
    generalize L.map (Value.int .i64) = cl at *
    generalize L.length = n at *
    generalize Cln w L = Q at *
    go_enter Try.func79, Try.ntmps79
    go_wp2_with (at_builtin; rw [← HW.out]; refine wpList_append_own _ rfl _ _ 55 rfl w.heap.size 3 i0 _ 1 8 Try.underlying55 hi hz0 hz1 hz2 rfl (by decide) _ 0 [] rfl HO.out ad n c cl rfl HL.out HN.out H1.out (by unfold maxLen; omega) (by omega) (by omega) ?_; intro v' w1 ho hg2 _)
    all_goals exact FIN.out v' w1 ho hg2
end Go.Proofs.Ytggjpallbapcmaa.Bk
namespace Go.Proofs.Ytggjpallbapcmaa
open Go.RowKit
/-- what client.got answers -/
def GotR (w : World) (n : Int) (xs : List Int) (e : Ending) (w' : World) : Prop :=
  ∃ a' c', e = .returned (.agg #[.int .i64 n, .slice a' xs.length c']) ∧ Bk.Nums w' a' xs ∧ (∀ ad, a' = some ad → w.heap.size ≤ ad.block ∧ ad.block < w'.heap.size) ∧ Below w.heap.size w w'
theorem nums_fr {w w' : World} {a : Option Addr} {xs : List Int} {P : Nat → Prop} (h : Bk.Nums w a xs) (f : Fr w w' P) (hP : ∀ ad, a = some ad → ¬ P ad.block) : Bk.Nums w' a xs := fun i hi => by
  obtain ⟨g, o, e, hl, c⟩ := h i hi
  exact ⟨g, o, e, Nat.lt_of_lt_of_le hl f.size, f.cell hl (hP _ e) c⟩
set_option maxHeartbeats 2000000 in
set_option maxRecDepth 100000 in
theorem got_any {w : World} {a : Option Addr} {xs : List Int} (n : Int) (c : Nat) (h : Bk.Nums w a xs) (hl : xs.length ≤ 17592186043904) : Calls Try.prog 56 #[.int .i64 n, .agg #[.slice a xs.length c]] w (GotR w n xs) := by
  obtain ⟨w1, hw1, K1, Z1, B1, hs1⟩ : ∃ w1, w1 = (w.alloc (.cells #[.slice a xs.length c] 70)).alloc (.cells #[.int .i64 0, .slice none 0 0] 72) ∧ Blk w1 w.heap.size 70 #[.slice a xs.length c] ∧ Blk w1 (w.heap.size + 1) 72 #[.int .i64 0, .slice none 0 0] ∧ Below w.heap.size w w1 ∧ w1.heap.size = w.heap.size + 1 + 1 :=
    ⟨_, rfl, (Blk.new w 70 _).below ((Below.refl _ _).alloc (Nat.le_refl _) _), by have := Blk.new (w.alloc (.cells #[.slice a xs.length c] 70)) 72 #[.int .i64 0, .slice none 0 0]; simpa using this, ((Below.refl w.heap.size w).alloc (Nat.le_refl _) _).alloc (by simp) _, by simp⟩
  have W1 := Lib.hid hw1
  have CL := Lib.hid (Bk.clone_big c (h.next B1) hl)
  have END : Hid (∀ (w2 : World) (v' : Value), Bk.OwnN w2 w1.heap.size v' xs → Below w1.heap.size w1 w2 → ∃ a' c', v' = .slice a' xs.length c' ∧ w2.cell? ⟨w.heap.size + 1, 0, none⟩ = some (.int .i64 0) ∧ w2.cell? ⟨w.heap.size + 1, 1, none⟩ = some (.slice none 0 0) ∧ (∀ i, w2.frozen? ⟨w.heap.size + 1, i, none⟩ = false) ∧
      GotR w n xs (.returned (.agg #[.int .i64 n, .slice a' xs.length c'])) ((w2.setCell ⟨w.heap.size + 1, 0, none⟩ (.int .i64 n)).setCell ⟨w.heap.size + 1, 1, none⟩ (.slice a' xs.length c'))) := Lib.hid (by
    intro w2 v' o b2
    obtain ⟨a', c', rfl, hn⟩ := Bk.OwnN.nums o
    have Z2 := Z1.below b2
    have hb : ∀ ad, a' = some ad → w1.heap.size ≤ ad.block ∧ ad.block < w2.heap.size := fun ad e => by
      subst e
      exact World.ownsRow.lt o ad.block rfl
    refine ⟨a', c', rfl, Z2.cell 0, Z2.cell 1, Z2.free, a', c', rfl, ?_, ?_, ?_⟩
    · refine nums_fr (nums_fr hn (fr_set w2 (w.heap.size + 1) 0 _) ?_) (fr_set _ (w.heap.size + 1) 1 _) ?_ <;> (intro ad e hh; have := hb ad e; omega)
    · intro ad e
      have := hb ad e
      have h3 : ((w2.setCell ⟨w.heap.size + 1, 0, none⟩ (.int .i64 n)).setCell ⟨w.heap.size + 1, 1, none⟩ (.slice a' xs.length c')).heap.size = w2.heap.size := by simp
      omega
    · exact ((B1.trans (b2.mono (by omega))).setCell (p := ⟨w.heap.size + 1, 0, none⟩) (Nat.le_succ _) _).setCell (p := ⟨w.heap.size + 1, 1, none⟩) (Nat.le_succ _) _)
  have k0 : w1.cell? ⟨w.heap.size, 0, none⟩ = some (.slice a xs.length c) := K1.cell 0
  generalize GotR w n xs = Q at *
  clear K1 Z1 B1 hw1 h hl
  unfold Bk.Cln at CL
  have HL := Lib.hid (rfl : xs.length = xs.length)
  generalize hy : w.heap.size = Y at *
  go_enter Try.func56, Try.ntmps56
  go_wp2_with fail
  rw [← W1.out]
  refine CL.out.mono ?_
  rintro e w2 ⟨v', rfl, o2, b2⟩
  obtain ⟨a', c', rfl, z0, z1, fz, q2⟩ := END.out w2 v' o2 b2
  have q2 := Lib.hid q2
  clear o2 b2 CL END W1 k0
  go_wp2_with fail
  refine bodyPost_ret (by simp [results, Try.results56, go_sem, z0, z1]; try rfl) rfl ?_
  exact q2.out
end Go.Proofs.Ytggjpallbapcmaa
/-
  Rows of numbers that can be read.
-/
namespace Go.Proofs.Ytggjpallbapcmaa.Bk
open Go.RowKit
/-- rows of numbers that can be read -/
def Rws (w : World) (a : Option Addr) (LL : List (List Int)) : Prop := ∀ i (h : i < LL.length), ∃ g o q c, a = some ⟨g, o, none⟩ ∧ g < w.heap.size ∧ w.cell? ⟨g, o + i, none⟩ = some (.slice q LL[i].length c) ∧ Nums w q LL[i]
theorem Rws.next {w w' : World} {a : Option Addr} {LL : List (List Int)} (h : Rws w a LL) (hb : Below w.heap.size w w') : Rws w' a LL := fun i hi => by
  obtain ⟨g, o, q, c, e, hg, ck, nn⟩ := h i hi
  exact ⟨g, o, q, c, e, Nat.lt_of_lt_of_le hg hb.size, (hb.cell (p := ⟨g, _, none⟩) hg).trans ck, nn.next hb⟩
end Go.Proofs.Ytggjpallbapcmaa.Bk
