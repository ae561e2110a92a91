/-
  The law of SessReads as a walk.
-/
import Derived.Test.YtkaocpfkigdpoaaRrd2
import Derived.Test.YtkaocpfkigdpoaaAwk
import Derived.Deep.RegionHeld3
namespace Go.Proofs.Ytkaocpfkigdpoaa
open Go.RowKit
/-- all and refs in one: the sessions of a pointer that may be nil -/
def TabO (w : World) (p : Option Addr) (L : List Sn) : Prop := (p = none ∧ L = []) ∨ ∃ T v, p = some ⟨T, 0, none⟩ ∧ Tab w T v L ∧ Okt L
theorem TabO.next {w w' : World} {p : Option Addr} {L : List Sn} (h : TabO w p L) (b : Below w.heap.size w w') : TabO w' p L := by
  rcases h with h | ⟨T, v, e, t, ok⟩
  · exact .inl h
  · exact .inr ⟨T, v, e, t.next b, ok⟩
theorem TabO.all {w : World} {p : Option Addr} {L : List Sn} (h : TabO w p L) : Calls Try.prog 22 #[.pointer p] w fun e w' => ∃ v', e = .returned v' ∧ Ses w' v' L ∧ Below w.heap.size w w' := by
  rcases h with ⟨rfl, rfl⟩ | ⟨T, v, rfl, t, ok⟩
  · exact (all_nil w).mono fun e w' ⟨he, hw⟩ => ⟨_, he, ses_nil _, hw ▸ Below.refl _ _⟩
  · have := ok.n
    exact (all_any t (by omega)).mono fun e w' ⟨v', he, o, b⟩ => ⟨v', he, o.ses, b⟩
theorem TabO.text {w : World} {p : Option Addr} {L : List Sn} (h : TabO w p L) : Calls Try.prog 19 #[.pointer p] w fun e w' => e = .returned (.string (txtS L)) ∧ Below w.heap.size w w' := by
  rcases h with ⟨rfl, rfl⟩ | ⟨T, v, rfl, t, ok⟩
  · exact text_nil w
  · exact text_any t ok
theorem TabO.len {w : World} {p : Option Addr} {L : List Sn} (h : TabO w p L) : L.length ≤ 32 := by
  rcases h with ⟨_, rfl⟩ | ⟨T, v, _, t, ok⟩
  · simp
  · exact ok.n
/-- what is at hand while the law is told -/
structure Sd (w0 w : World) (b5 : Nat) (p : Option Addr) (u : Value) (L : List Sn) : Prop where
  tab : TabO w p L
  blk : Blk w b5 27 #[u]
  ses : Ses w u L
  bel : Below w0.heap.size w0 w
theorem Sd.next {w0 w w' : World} {b5 : Nat} {p : Option Addr} {u : Value} {L : List Sn} (h : Sd w0 w b5 p u L) (b : Below w.heap.size w w') : Sd w0 w' b5 p u L :=
  ⟨h.tab.next b, h.blk.next b, h.ses.next b, h.bel.trans (b.mono h.bel.size)⟩
theorem undrew {w w' : World} (b : Below w.drew.heap.size w.drew w') : Below w.heap.size w w' := ⟨b.os, b.tape, b.output, b.size, b.block⟩
theorem refs_nil (w : World) : Calls Try.prog 21 #[.slice none 0 0] w fun e w' => e = .returned (.slice none 0 0) ∧ w = w' := by
  go_enter Try.func21, Try.ntmps21
  go_wp2_with fail
  go_rounds 1
  go_ret
  exact ⟨rfl, rfl⟩
set_option maxHeartbeats 4000000 in
set_option maxRecDepth 100000 in
theorem reads_law (s : ByteArray) (hs : s.size ≤ 9223372036854775807) (w : World) : Calls Try.prog 4 #[.string s] w fun e w' => e = .returned (.bool true) ∧ Below w.heap.size w w' := by
  have AW := Lib.hid awake_any
  by_cases h5 : 5000 < s.size
  · have h5I : (5000 : Int) < (s.size : Int) := by omega
    go_enter Try.func4, Try.ntmps4
    go_wp2_with fail
    refine (AW.out _).mono ?_
    rintro e w1 ⟨rfl, b1⟩
    go_wp2_with fail
    go_ret
    exact ⟨rfl, b1⟩
  have h5I : ¬ (5000 : Int) < (s.size : Int) := by omega
  have R1 := Lib.hid (read_any s (by omega))
  have R2 := Lib.hid (rread_any s (by omega))
  have BK := Lib.hid (fun L (h : rdT s = some L) => rdT_back h)
  have ALL := Lib.hid (fun W p L (h : TabO W p L) => h.all)
  have TXT := Lib.hid (fun W p L (h : TabO W p L) => h.text)
  have REF := Lib.hid (fun W v L (h : Ses W v L) (hl : L.length ≤ 1000) => refs_any h hl)
  have SAM := Lib.hid (fun W v u L (h : Ses W v L) (k : Ses W u L) (hl : L.length ≤ 1000) => (same_any h k hl hl).mono (R' := fun e w' => e = Ending.returned (.bool true) ∧ Below W.heap.size W w') (fun e w' ⟨he, b⟩ => ⟨by rw [he, decide_eq_true rfl], b⟩))
  rcases hr : rdT s with _ | L
  · rw [hr] at R1 R2
    clear BK hr
    have hlL : ([] : List Sn).length ≤ 1000 := by simp
    go_enter Try.func4, Try.ntmps4
    go_wp2_with fail
    refine (R1.out _).mono ?_
    rintro e w1 ⟨rfl, b1⟩
    have b1 := Lib.hid b1
    go_wp2_with fail
    refine (R2.out _).mono ?_
    rintro e w2 ⟨rfl, b2⟩
    have b2 := Lib.hid (b1.out.trans (b2.mono b1.out.size))
    have SD := Lib.hid (fun W3 (h : W3 = w2.alloc (.cells #[.slice none 0 0] 27)) => show Sd w W3 w2.heap.size none (.slice none 0 0) [] by
      subst h
      exact ⟨.inl ⟨rfl, rfl⟩, Blk.new _ _ _, ses_nil _, b2.out.alloc b2.out.size _⟩)
    clear b1 b2
    obtain ⟨W3, hW3⟩ : ∃ W3, W3 = w2.alloc (.cells #[.slice none 0 0] 27) := ⟨_, rfl⟩
    have S3 := Lib.hid (SD.out W3 hW3)
    have c3 : W3.cell? ⟨w2.heap.size, 0, none⟩ = some (.slice none 0 0) := S3.out.blk.cell 0
    have HW := Lib.hid hW3
    clear SD hW3
    go_wp2_with fail
    rw [← HW.out]
    clear HW
    generalize w2.heap.size = b5 at *
    have x0 := fun d os => cell_regrown c3 d os
    have C1 := Lib.hid (fun d os => Calls.regrown_of (d := d) (os := os) (AW.out (Go.Sort.grow (redrawn W3 d) os)))
    have C2 := Lib.hid (fun d os => Calls.regrown_of (d := d) (os := os) ((all_nil (Go.Sort.grow (redrawn W3 d) os)).mono (fun e w' ⟨he, hw⟩ => (⟨he, hw ▸ Below.refl _ _⟩ : e = Ending.returned (.slice none 0 0) ∧ Below _ _ w'))))
    have C3 := Lib.hid (fun d os => Calls.regrown_of (d := d) (os := os) ((refs_nil (Go.Sort.grow (redrawn W3 d) os)).mono (fun e w' ⟨he, hw⟩ => (⟨he, hw ▸ Below.refl _ _⟩ : e = Ending.returned (.slice none 0 0) ∧ Below _ _ w'))))
    have C4 := Lib.hid (fun d os => Calls.regrown_of (d := d) (os := os) (SAM.out (Go.Sort.grow (redrawn W3 d) os) (.slice none 0 0) (.slice none 0 0) [] (ses_nil _) (ses_nil _) hlL))
    refine wp_region_quiet_below mixedE (by kernel_rfl) ?_
    repeat (quiet_step (first | (with_reducible exact C1.out _ _) | (with_reducible exact C2.out _ _) | (with_reducible exact C3.out _ _) | (with_reducible exact C4.out _ _)))
    refine wpQuiet_nil ?_
    intro _ hw'
    obtain ⟨⟨dq, osq⟩, hw''⟩ := hw'
    subst hw''
    have FF := Lib.hid (S3.out.next (below_regrown W3 dq osq)).bel
    clear x0 C1 C2 C3 C4 c3 S3
    generalize Go.Sort.grow (redrawn W3 dq) osq = w6 at *
    go_wp2_with fail
    go_ret
    exact ⟨rfl, FF.out⟩
  · obtain ⟨ok, tx⟩ := BK.out L hr
    rw [hr] at R1 R2
    have hlL : L.length ≤ 1000 := by have := ok.n; omega
    have HOK := Lib.hid ok
    have TX2 := Lib.hid (fun W p (h : TabO W p L) => (h.text).mono (R' := fun e w' => e = Ending.returned (.string s) ∧ Below W.heap.size W w') (fun e w' ⟨he, b⟩ => ⟨by rw [he, tx], b⟩))
    clear BK hr ok tx
    go_enter Try.func4, Try.ntmps4
    go_wp2_with fail
    refine (R1.out _).mono ?_
    rintro e w1 ⟨T, v, rfl, hT, t1, b1⟩
    have b1 := Lib.hid b1
    have t1 := Lib.hid t1
    go_wp2_with fail
    refine (R2.out _).mono ?_
    rintro e w2 ⟨u, rfl, o2, b2⟩
    have SD := Lib.hid (fun W3 (h : W3 = w2.alloc (.cells #[u] 27)) => show Sd w W3 w2.heap.size (some ⟨T, 0, none⟩) u L by
      have bb := b1.out.trans (b2.mono b1.out.size)
      have ba := (Below.refl w2.heap.size w2).alloc (Nat.le_refl _) (.cells #[u] 27)
      subst h
      exact ⟨.inr ⟨T, v, rfl, (t1.out.next b2).next ba, HOK.out⟩, Blk.new _ _ _, o2.ses.next ba, bb.trans (ba.mono bb.size)⟩)
    obtain ⟨au, cu, hu⟩ := o2.form
    clear b1 b2 t1 o2
    subst hu
    obtain ⟨W3, hW3⟩ : ∃ W3, W3 = w2.alloc (.cells #[.slice au L.length cu] 27) := ⟨_, rfl⟩
    have S3 := Lib.hid (SD.out W3 hW3)
    have c3 : W3.cell? ⟨w2.heap.size, 0, none⟩ = some (.slice au L.length cu) := S3.out.blk.cell 0
    have HW := Lib.hid hW3
    clear SD hW3
    go_wp2_with fail
    rw [← HW.out]
    clear HW
    generalize w2.heap.size = b5 at *
    have S1 : W3.drew.cell? ⟨b5, 0, none⟩ = some (.slice au L.length cu) := c3
    have HD3 := Lib.hid (fun wa (b : Below W3.drew.heap.size W3.drew wa) => S3.out.next (undrew b))
    clear c3 S3
    go_region_held3 (fun w' => w'.cell? ⟨b5, 0, none⟩ = some (.slice au L.length cu))
      (first | exact S1 | assumption)
      (first
        | (go_at_call 10; refine (AW.out _).mono ?_; rintro e wa ⟨rfl, ba⟩; have Sa := Lib.hid (HD3.out wa ba); have ca : wa.cell? ⟨b5, 0, none⟩ = some (.slice au L.length cu) := Sa.out.blk.cell 0)
        | (go_at_call 22; refine (ALL.out _ _ _ Sa.out.tab).mono ?_; rintro e wb ⟨vb, rfl, sb, bb⟩; have Sb := Lib.hid (Sa.out.next bb); have sb := Lib.hid sb; have cb : wb.cell? ⟨b5, 0, none⟩ = some (.slice au L.length cu) := Sb.out.blk.cell 0)
        | (go_at_call 21; refine (REF.out _ _ _ sb.out hlL).mono ?_; rintro e wc ⟨vc, rfl, oc, bc⟩; have Sc := Lib.hid (Sb.out.next bc); have sc := Lib.hid oc.ses; have cc : wc.cell? ⟨b5, 0, none⟩ = some (.slice au L.length cu) := Sc.out.blk.cell 0; clear oc)
        | (go_at_call 20; refine (SAM.out _ _ _ _ sc.out Sc.out.ses hlL).mono ?_; rintro e wd ⟨rfl, bd⟩; have Se := Lib.hid (Sc.out.next bd); have cd : wd.cell? ⟨b5, 0, none⟩ = some (.slice au L.length cu) := Se.out.blk.cell 0)
        | (go_at_call 19; refine (TX2.out _ _ Se.out.tab).mono ?_; rintro e wf ⟨rfl, bf⟩; have Sf := Lib.hid (Se.out.next bf); have cf : wf.cell? ⟨b5, 0, none⟩ = some (.slice au L.length cu) := Sf.out.blk.cell 0))
    all_goals (go_wp2_with fail; go_ret; exact ⟨by simp, Sf.out.bel⟩)
end Go.Proofs.Ytkaocpfkigdpoaa
