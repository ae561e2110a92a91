/-
  THE PAGE's EXAMPLE.
-/
import Derived.Test.YtbghjcfepjbppaaTld
import Derived.Test.YtbghjcfepjbppaaTas
namespace Go.Proofs.Ytbghjcfepjbppaa
open Go.RowKit
theorem aw_chk : chkB 1 1 0 ⟨#[97]⟩ [] = true := by decide +kernel
theorem aw_chk4 : chkB 4 1 0 ⟨#[97]⟩ [] = true := by decide +kernel
theorem aw_txt : askS 4 (0 + 1) 0 ⟨#[97]⟩ [] = ⟨#[2, 4, 1, 0, 1, 97, 0]⟩ := by decide +kernel
/-- what the page's first event leaves -/
def AwA (w : World) (t : Nat) (W : World) (id : Int) (to : Int) : Prop :=
  ∃ g cap rv p cp, Blk W t 98 (tel 2 to id 0 (.slice (some ⟨g, 0, none⟩) 1 cap) rv) ∧ t = w.heap.size ∧ t < g ∧ g < W.heap.size ∧ Below w.heap.size w W ∧
    W.cell? ⟨g, 0, none⟩ = some (.int .i64 0) ∧ W.cell? ⟨g, 1, none⟩ = some (.int .i64 0) ∧ W.cell? ⟨g, 2, none⟩ = some (.int .i64 0) ∧ W.cell? ⟨g, 3, none⟩ = some (.string ⟨#[97]⟩) ∧ W.cell? ⟨g, 4, none⟩ = some (.slice p 0 cp)
theorem AwA.set {w : World} {t : Nat} {W W' : World} {id to id' to' : Int} (h : AwA w t W id to) (T : ∀ g cap rv, Blk W t 98 (tel 2 to id 0 (.slice (some ⟨g, 0, none⟩) 1 cap) rv) → Blk W' t 98 (tel 2 to' id' 0 (.slice (some ⟨g, 0, none⟩) 1 cap) rv)) (f : Fr W W' (fun q => q = t)) : AwA w t W' id' to' := by
  obtain ⟨g, cap, rv, p, cp, hT, ht, hg, hgs, hb, c0, c1, c2, c3, c4⟩ := h
  exact ⟨g, cap, rv, p, cp, T _ _ _ hT, ht, hg, Nat.lt_of_lt_of_le hgs f.size, hb.trans (f.below (fun q hq => by omega) hb.size), f.cell hgs (by omega) c0, f.cell hgs (by omega) c1, f.cell hgs (by omega) c2, f.cell hgs (by omega) c3, f.cell hgs (by omega) c4⟩
theorem AwA.next {w : World} {t : Nat} {W W' : World} {id to : Int} (h : AwA w t W id to) (b : Below W.heap.size W W') : AwA w t W' id to := by
  have hlt : ∀ g cap rv, Blk W t 98 (tel 2 to id 0 (.slice (some ⟨g, 0, none⟩) 1 cap) rv) → Blk W' t 98 (tel 2 to id 0 (.slice (some ⟨g, 0, none⟩) 1 cap) rv) := fun g cap rv hT => hT.below b
  exact h.set hlt (Fr.of_below b _)
theorem aw_new (w : World) : Calls Try.prog 7 #[.int .i64 2] w fun e w' => e = .returned (.pointer (some ⟨w.heap.size, 0, none⟩)) ∧ Blk w' w.heap.size 98 (tel 2 0 0 0 (.slice none 0 0) (.slice none 0 0)) ∧ Below w.heap.size w w' := tel_new 2 (by decide) w
theorem aw_add {w0 w : World} (T : Blk w w0.heap.size 98 (tel 2 0 0 0 (.slice none 0 0) (.slice none 0 0))) (hb : Below w0.heap.size w0 w) :
    Calls Try.prog 11 #[.pointer (some ⟨w0.heap.size, 0, none⟩), evV 0 0 0 ⟨#[97]⟩ (.slice none 0 0)] w fun e w' => e = .returned (.int .i64 0) ∧ AwA w0 w0.heap.size w' 0 0 := by
  have hlt := T.lt
  refine (add_ok (B := w.heap.size) (L := []) (p := none) (cp := 0) (ua := none) (uc := 0) (n := 0) (cs := []) T hlt (Nat.le_refl _) (World.ownsRow_nil _ _ _ _) (by omega) ?_ ?_).mono ?_
  · intro W _
    have h := check_any 1 1 0 ⟨#[97]⟩ none 0 [] W (by simp) (by decide) (fun i hi => by simp at hi) (fun x hx => by cases hx)
    rw [aw_chk] at h
    exact h
  · intro W _
    exact copR_nil 0 0 0 ⟨#[97]⟩ (by decide) W
  · rintro e w' ⟨rfl, g, cap, p, cp, T', ho, hF, hp, f, _⟩
    have CA : ∀ i u, (encE 0 0 0 ⟨#[97]⟩ (.slice p ([] : List Fld).length cp))[i]? = some u → w'.cell? ⟨g, i, none⟩ = some u := fun i u hu => by
      rw [World.ownsRow.cellAt ho _ (by have := (List.getElem?_eq_some_iff.1 hu).1; simpa [encE] using this)]
      exact hu
    refine ⟨rfl, g, cap, _, p, cp, T', rfl, ?_, ?_, ?_, CA 0 _ rfl, CA 1 _ rfl, CA 2 _ rfl, CA 3 _ rfl, CA 4 _ rfl⟩
    · have := (World.ownsRow.lt ho g rfl).1; omega
    · exact (World.ownsRow.lt ho g rfl).2
    · refine hb.trans (f.below (fun q hq => ?_) hb.size)
      rcases hq with rfl | hq
      · exact Nat.le_refl _
      · simp [Value.ownBlock] at hq
theorem aw_ask0 {w0 w : World} {t : Nat} (h : AwA w0 t w 0 0) : Calls Try.prog 34 #[.pointer (some ⟨t, 0, none⟩)] w fun e w' => e = .returned (.tuple #[askV 0 ⟨#[1]⟩ ⟨#[]⟩ 0 0, .bool true]) ∧ AwA w0 t w' 0 0 ∧ Fr w w' (fun q => q = t) := by
  have h0 := h
  obtain ⟨g, cap, rv, p, cp, hT, _⟩ := h
  exact (ask_open hT (by omega)).mono fun e w' ⟨he, b⟩ => ⟨he, h0.next b, Fr.of_below b _⟩
theorem aw_told {w0 w : World} {t : Nat} (h : AwA w0 t w 0 0) (lead : Int) : Calls Try.prog 13 #[.pointer (some ⟨t, 0, none⟩), .agg #[.int .i64 0, .int .i64 4], .int .i64 lead] w fun e w' => e = .returned (.tuple #[]) ∧ AwA w0 t w' 4 0 ∧ Fr w w' (fun q => q = t) := by
  have h0 := h
  obtain ⟨g, cap, rv, p, cp, hT, ht, hg, hgs, hb, c0, c1, c2, c3, c4⟩ := h
  refine (told_opens (m := 4) (lead := lead) hT (by omega) (by omega)).mono fun e w' ⟨he, T', f⟩ => ⟨he, ?_, f⟩
  exact ⟨g, cap, rv, p, cp, T', ht, hg, Nat.lt_of_lt_of_le hgs f.size, hb.trans (f.below (fun q hq => by omega) hb.size), f.cell hgs (by omega) c0, f.cell hgs (by omega) c1, f.cell hgs (by omega) c2, f.cell hgs (by omega) c3, f.cell hgs (by omega) c4⟩
theorem aw_late {w0 w : World} {t : Nat} (h : AwA w0 t w 4 0) : Calls Try.prog 15 #[.pointer (some ⟨t, 0, none⟩)] w fun e w' => e = .returned (.tuple #[]) ∧ AwA w0 t w' 4 1 ∧ Fr w w' (fun q => q = t) := by
  obtain ⟨g, cap, rv, p, cp, hT, ht, hg, hgs, hb, c0, c1, c2, c3, c4⟩ := h
  refine (late_any hT (by omega) (by omega)).mono fun e w' ⟨he, T', f⟩ => ⟨he, ?_, f⟩
  exact ⟨g, cap, rv, p, cp, T', ht, hg, Nat.lt_of_lt_of_le hgs f.size, hb.trans (f.below (fun q hq => by omega) hb.size), f.cell hgs (by omega) c0, f.cell hgs (by omega) c1, f.cell hgs (by omega) c2, f.cell hgs (by omega) c3, f.cell hgs (by omega) c4⟩
theorem aw_ask {w0 w : World} {t : Nat} {to : Int} (h : AwA w0 t w 4 to) : Calls Try.prog 34 #[.pointer (some ⟨t, 0, none⟩)] w fun e w' => e = .returned (.tuple #[askV to ⟨#[2, 4, 1, 0, 1, 97, 0]⟩ ⟨#[]⟩ 0 0, .bool true]) ∧ AwA w0 t w' 4 to ∧ Fr w w' (fun q => q = t) := by
  have h0 := h
  obtain ⟨g, cap, rv, p, cp, hT, ht, hg, hgs, hb, c0, c1, c2, c3, c4⟩ := h
  have A := ask_event (L := []) hT (by omega) (by omega) (by omega) c0 c1 c2 c3 c4 hgs (fun W _ => write_event 4 (0 + 1) 0 ⟨#[97]⟩ p cp [] W (by simp) (by decide) (fun i hi => by simp at hi) (fun x hx => by cases hx) (fun x hx => by cases hx) (by omega) (by omega) aw_chk4 (by decide +kernel))
  rw [aw_txt] at A
  exact A.mono fun e w' ⟨he, b⟩ => ⟨he, h0.next b, Fr.of_below b _⟩
set_option maxHeartbeats 2000000 in
set_option maxRecDepth 100000 in
theorem awake_any (w : World) : Calls Try.prog 8 #[] w fun e w' => e = .returned (.bool true) ∧ Below w.heap.size w w' := by
  have N := Lib.hid (aw_new w)
  have A1 := Lib.hid (fun W T b => aw_add (w0 := w) (w := W) T b)
  have A2 := Lib.hid (fun W (h : AwA w w.heap.size W 0 0) => aw_ask0 h)
  have A3 := Lib.hid (fun W (h : AwA w w.heap.size W 0 0) => aw_told h (-1))
  have A4 := Lib.hid (fun W (h : AwA w w.heap.size W 4 0) => aw_ask h)
  have A5 := Lib.hid (fun W (h : AwA w w.heap.size W 4 0) => aw_late h)
  have A6 := Lib.hid (fun W (h : AwA w w.heap.size W 4 1) => aw_ask h)
  have NX := Lib.hid (fun (W W' : World) (id to : Int) (h : AwA w w.heap.size W id to) (b : Below W.heap.size W W') => h.next b)
  have SZ := Lib.hid (fun (W : World) (id to : Int) (h : AwA w w.heap.size W id to) => (show w.heap.size < W.heap.size ∧ Below w.heap.size w W from ⟨by obtain ⟨g, _, _, _, _, _, _, h1, h2, _⟩ := h; omega, by obtain ⟨g, _, _, _, _, _, _, _, _, h3, _⟩ := h; exact h3⟩))
  unfold evV at A1
  unfold askV at A2 A4 A6
  generalize hAw : AwA w w.heap.size = M at *
  clear hAw
  generalize hy : w.heap.size = Y at *
  go_enter Try.func8, Try.ntmps8
  go_wp2_with fail
  refine N.out.mono ?_
  rintro e w1 ⟨rfl, T1, b1⟩
  have T1 := Lib.hid T1
  have b1 := Lib.hid b1
  go_wp2_with fail
  refine (A1.out _ T1.out b1.out).mono ?_
  rintro e w2 ⟨rfl, m2⟩
  clear T1 b1
  go_wp2_with fail
  refine (A2.out _ m2).mono ?_
  rintro e w3 ⟨rfl, m3, _⟩
  clear m2
  go_wp2_with fail
  have al := fun (W : World) o => (Below.refl W.heap.size W).alloc (Nat.le_refl _) o
  obtain ⟨W3, hW3, M3, X3⟩ : ∃ W3, W3 = w3.alloc (.cells #[.int .i64 0, .string ⟨#[1]⟩, .string ⟨#[]⟩, .int .i64 0, .int .i64 0] 63) ∧ M W3 0 0 ∧ Blk W3 w3.heap.size 63 #[.int .i64 0, .string ⟨#[1]⟩, .string ⟨#[]⟩, .int .i64 0, .int .i64 0] := ⟨_, rfl, NX.out _ _ _ _ m3 (al _ _), Blk.new _ _ _⟩
  rw [← hW3]
  have Y3 : w3.heap.size ≠ Y := by have := (SZ.out _ _ _ m3).1; omega
  have X3 := Lib.hid X3
  generalize w3.heap.size = y3 at *
  clear hW3 m3
  refine (A3.out _ M3).mono ?_
  rintro e w4 ⟨rfl, m4, f4⟩
  have X4 := Lib.hid (X3.out.fr f4 Y3)
  clear X3 f4 M3
  go_wp2_with fail
  refine (A4.out _ m4).mono ?_
  rintro e w5 ⟨rfl, m5, f5⟩
  have X5 := Lib.hid (X4.out.fr f5 Y3)
  clear X4 f5 m4
  go_wp2_with fail
  obtain ⟨W5, hW5, M5, Z5, b5⟩ : ∃ W5, W5 = w5.alloc (.cells #[.int .i64 0, .string ⟨#[2, 4, 1, 0, 1, 97, 0]⟩, .string ⟨#[]⟩, .int .i64 0, .int .i64 0] 63) ∧ M W5 4 0 ∧ Blk W5 w5.heap.size 63 #[.int .i64 0, .string ⟨#[2, 4, 1, 0, 1, 97, 0]⟩, .string ⟨#[]⟩, .int .i64 0, .int .i64 0] ∧ Below w5.heap.size w5 W5 := ⟨_, rfl, NX.out _ _ _ _ m5 (al _ _), Blk.new _ _ _, al _ _⟩
  rw [← hW5]
  have X5 := Lib.hid (X5.out.below b5)
  have Y5 : w5.heap.size ≠ Y := by have := (SZ.out _ _ _ m5).1; omega
  have Z5 := Lib.hid Z5
  clear hW5 m5 b5
  generalize w5.heap.size = y5 at *
  refine (A5.out _ M5).mono ?_
  rintro e w6 ⟨rfl, m6, f6⟩
  have X6 := Lib.hid (X5.out.fr f6 Y3)
  have Z6 := Lib.hid (Z5.out.fr f6 Y5)
  clear X5 Z5 f6 M5
  go_wp2_with fail
  refine (A6.out _ m6).mono ?_
  rintro e w7 ⟨rfl, m7, f7⟩
  have X7 := Lib.hid (X6.out.fr f7 Y3)
  have Z7 := Lib.hid (Z6.out.fr f7 Y5)
  clear X6 Z6 f7 m6
  go_upto_region 8 with fail
  obtain ⟨W7, hW7, V7, b7⟩ : ∃ W7, W7 = w7.alloc (.cells #[.int .i64 1, .string ⟨#[2, 4, 1, 0, 1, 97, 0]⟩, .string ⟨#[]⟩, .int .i64 0, .int .i64 0] 63) ∧ Blk W7 w7.heap.size 63 #[.int .i64 1, .string ⟨#[2, 4, 1, 0, 1, 97, 0]⟩, .string ⟨#[]⟩, .int .i64 0, .int .i64 0] ∧ Below w7.heap.size w7 W7 := ⟨_, rfl, Blk.new _ _ _, al _ _⟩
  rw [← hW7]
  have x0 : W7.cell? ⟨y3, 0, none⟩ = some (.int .i64 0) := (X7.out.below b7).cell 0
  have x1 : W7.cell? ⟨y3, 1, none⟩ = some (.string ⟨#[1]⟩) := (X7.out.below b7).cell 1
  have z0 : W7.cell? ⟨y5, 0, none⟩ = some (.int .i64 0) := (Z7.out.below b7).cell 0
  have z1 : W7.cell? ⟨y5, 1, none⟩ = some (.string ⟨#[2, 4, 1, 0, 1, 97, 0]⟩) := (Z7.out.below b7).cell 1
  have v0 : W7.cell? ⟨w7.heap.size, 0, none⟩ = some (.int .i64 1) := V7.cell 0
  have v1 : W7.cell? ⟨w7.heap.size, 1, none⟩ = some (.string ⟨#[2, 4, 1, 0, 1, 97, 0]⟩) := V7.cell 1
  have FIN := Lib.hid (show Below Y w W7 from (SZ.out _ _ _ (NX.out _ _ _ _ m7 b7)).2)
  clear V7 X7 Z7 b7 m7 hW7 N A1 A2 A3 A4 A5 A6 NX SZ al
  generalize w7.heap.size = y7 at *
  go_wp2_with fail
  go_ret
  exact ⟨rfl, FIN.out⟩
end Go.Proofs.Ytbghjcfepjbppaa
