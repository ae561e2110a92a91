/-
  THE LAW BitsReads AS A WALK.
-/
import Derived.Test.YtpnkdpmhphhenaaRead
import Derived.IntWalk
namespace Go.Proofs.Ytpnkdpmhphhenaa
open Go.RowKit Go.Sort
/-- the bytes of a slice -/
def Byts (w : World) (a : Option Addr) (xs : List Int) : Prop := ∀ i (h : i < xs.length), ∃ b o, a = some ⟨b, o, none⟩ ∧ b < w.heap.size ∧ w.cell? ⟨b, o + i, none⟩ = some (.int .u8 xs[i]) ∧ 0 ≤ xs[i] ∧ xs[i] < 256
theorem read_any {w : World} {b : Nat} {s : ByteArray} {e : Int} (h : TapeAt w b s e) (hs : s.size ≤ 281474976710656) (k most : Int) (m0 : -9223372036854775808 ≤ most) (m1 : most ≤ 9223372036854775807) (k0 : 0 ≤ k) (k1 : k < 256) :
    Calls Try.prog 26 #[.pointer (some ⟨b, 0, none⟩), .agg #[.string s, .int .i64 e], .int .i64 k, .int .i64 most] w fun r w' => ∃ s' e', s'.size ≤ s.size ∧ r = .returned (.tuple #[.agg #[.string s', .int .i64 e'], .bool true]) ∧ TapeAt w' b s' e' ∧ w.grownBy w' (some b) := by
  have hk : k % 5 = 0 ∨ k % 5 = 1 ∨ k % 5 = 2 ∨ k % 5 = 3 ∨ k % 5 = 4 := by omega
  rcases hk with hk | hk | hk | hk | hk
  · exact read_num h hs k most k0 k1 hk
  · exact read_int h hs k most k0 k1 hk
  · exact read_real h hs k most k0 k1 hk
  · exact read_text h hs k most m0 m1 k0 k1 hk
  · exact read_flag h hs k most k0 k1 hk
/-- what region 3 keeps -/
abbrev S3 (v : World) (b X : Nat) (s : ByteArray) (e : Int) (w' : World) : Prop := w'.cell? ⟨X, 0, none⟩ = some (.string s) ∧ w'.cell? ⟨X, 1, none⟩ = some (.int .i64 e) ∧ TapeAt w' b s e ∧ BoxAt w' X s e ∧ Below v.heap.size v w'
theorem S3.of {v w : World} {b X : Nat} {s : ByteArray} {e : Int} (ht : TapeAt w b s e) (hb : BoxAt w X s e) (hv : Below v.heap.size v w) : S3 v b X s e w := ⟨hb.c0, hb.c1, ht, hb, hv⟩
theorem S3.tape {v w : World} {b X : Nat} {s : ByteArray} {e : Int} (h : S3 v b X s e w) : TapeAt w b s e := h.2.2.1
theorem S3.below {v w w' : World} {b X : Nat} {s : ByteArray} {e : Int} (h : S3 v b X s e w) (hb : Below w.heap.size w w') : S3 v b X s e w' := S3.of (h.2.2.1.next hb) (h.2.2.2.1.next hb) (h.2.2.2.2.trans (hb.mono h.2.2.2.2.size))
theorem S3.drew {v w : World} {b X : Nat} {s : ByteArray} {e : Int} (h : S3 v b X s e w) : S3 v b X s e w.drew := h.below ((Below.refl w.heap.size w).drew)
/-- what region 8 keeps -/
abbrev S8 (v : World) (X ba o : Nat) (x : Int) (s : ByteArray) (e : Int) (w' : World) : Prop := w'.cell? ⟨X, 0, none⟩ = some (.string s) ∧ w'.cell? ⟨X, 1, none⟩ = some (.int .i64 e) ∧ w'.cell? ⟨ba, o, none⟩ = some (.int .u8 x) ∧ BoxAt w' X s e ∧ Below v.heap.size v w' ∧ ba < v.heap.size
theorem S8.of {v w : World} {X ba o : Nat} {x : Int} {s : ByteArray} {e : Int} (hb : BoxAt w X s e) (hc : w.cell? ⟨ba, o, none⟩ = some (.int .u8 x)) (hv : Below v.heap.size v w) (hl : ba < v.heap.size) : S8 v X ba o x s e w := ⟨hb.c0, hb.c1, hc, hb, hv, hl⟩
theorem S8.below {v w w' : World} {X ba o : Nat} {x : Int} {s : ByteArray} {e : Int} (h : S8 v X ba o x s e w) (hb : Below w.heap.size w w') : S8 v X ba o x s e w' :=
  S8.of (h.2.2.2.1.next hb) (by rw [hb.cell (p := ⟨ba, _, none⟩) (Nat.lt_of_lt_of_le h.2.2.2.2.2 h.2.2.2.2.1.size)]; exact h.2.2.1) (h.2.2.2.2.1.trans (hb.mono h.2.2.2.2.1.size)) h.2.2.2.2.2
theorem S8.drew {v w : World} {X ba o : Nat} {x : Int} {s : ByteArray} {e : Int} (h : S8 v X ba o x s e w) : S8 v X ba o x s e w.drew := h.below ((Below.refl w.heap.size w).drew)
theorem S8.alloc {v w : World} {X ba o : Nat} {x : Int} {s : ByteArray} {e : Int} (h : S8 v X ba o x s e w) (ob : Obj) : S8 v X ba o x s e (w.alloc ob) := h.below ((Below.refl _ _).alloc (Nat.le_refl _) ob)
theorem S8.grown {v w w' : World} {b X ba o : Nat} {x : Int} {s : ByteArray} {e : Int} (h : S8 v X ba o x s e w) (hg : w.grownBy w' (some b)) (hbX : X ≠ b) (hbv : v.heap.size ≤ b) : S8 v X ba o x s e w' := by
  have hB : Below v.heap.size v w' := h.2.2.2.2.1.trans ⟨hg.os, hg.tape, hg.output, hg.size, fun q hq => hg.block q (Nat.lt_of_lt_of_le hq h.2.2.2.2.1.size) (by simp; omega)⟩
  refine S8.of (h.2.2.2.1.grown hg hbX) ?_ hB h.2.2.2.2.2
  have hlt := h.2.2.2.2.2
  have e1 : w'.heap[ba]? = w.heap[ba]? := hg.block ba (Nat.lt_of_lt_of_le hlt h.2.2.2.2.1.size) (by simp; omega)
  have hc := h.2.2.1
  simp only [World.cell?] at hc ⊢
  rw [e1]; exact hc
theorem S8.set {v w : World} {X Y ba o : Nat} {x : Int} {s : ByteArray} {e : Int} (h : S8 v X ba o x s e w) (hY : v.heap.size ≤ Y) (hYX : X ≠ Y) (a : ByteArray) (c : Int) : S8 v X ba o x s e ((w.setCell ⟨Y, 0, none⟩ (.string a)).setCell ⟨Y, 1, none⟩ (.int .i64 c)) := by
  have hlt := h.2.2.2.2.2
  refine S8.of ?_ ?_ ((h.2.2.2.2.1.setCell (p := ⟨Y, 0, none⟩) hY _).setCell (p := ⟨Y, 1, none⟩) hY _) hlt
  · have := h.2.2.2.1
    unfold BoxAt at *
    rw [Below.heap_setCell _ _ _ _ (by simp; omega), Below.heap_setCell _ _ _ _ (by simp; omega)]; exact this
  · rw [World.cell?_setCell_far _ _ _ _ (by simp; omega), World.cell?_setCell_far _ _ _ _ (by simp; omega)]; exact h.2.2.1
set_option maxHeartbeats 8000000 in
set_option maxRecDepth 100000 in
theorem reads_law (s : ByteArray) (a : Option Addr) (c : Nat) (xs : List Int) (most : Int) (w : World) (hs : s.size ≤ 281474976710656) (m0 : -9223372036854775808 ≤ most) (m1 : most ≤ 9223372036854775807) (hx : Byts w a xs) :
    Calls Try.prog 6 #[.string s, .slice a xs.length c, .int .i64 most] w fun e w' => e = .returned (.bool true) ∧ Below w.heap.size w w' := by
  have HX := Lib.hid hx
  have M0 := Lib.hid m0
  have M1 := Lib.hid m1
  clear hx m0 m1
  generalize hn : xs.length = n at *
  have HN := Lib.hid hn
  clear hn
  go_enter Try.func6, Try.ntmps6
  go_wp2_with fail
  refine (at_any s w hs).mono ?_
  rintro e w1 ⟨b, rfl, hb, hT, b1⟩
  have BX := box_new w1 s 0
  have TX := hT.next ((Below.refl w1.heap.size w1).alloc (Nat.le_refl _) (.cells #[.string s, .int .i64 0] 37))
  have hbX := hT.lt
  have BB : Below w.heap.size w (w1.alloc (.cells #[.string s, .int .i64 0] 37)) := b1.alloc b1.size _
  have hXw := b1.size
  go_wp2_with fail
  obtain ⟨w2, hw2⟩ : ∃ w2 : World, w2 = w1.alloc (.cells #[.string s, .int .i64 0] 37) := ⟨_, rfl⟩
  rw [← hw2]
  rw [← hw2] at BX TX BB
  generalize w1.heap.size = X at *
  clear hw2 hT b1
  have hS3 : S3 w b X s 0 w2 := S3.of TX BX BB
  clear TX BX BB
  go_region_held3 (fun w' => w'.cell? ⟨X, 0, none⟩ = some (.string s) ∧ w'.cell? ⟨X, 1, none⟩ = some (.int .i64 0) ∧ TapeAt w' b s 0 ∧ BoxAt w' X s 0 ∧ Below w.heap.size w w')
    (first | assumption | exact S3.drew (by assumption) | exact S3.below (by assumption) (by assumption))
    (first | ((go_at_call 11; refine (awake_any _).mono ?_; rintro r w4 ⟨rfl, b4⟩)) | ((go_at_call 23; refine (rest_any (by first | assumption | exact S3.tape (by assumption)) hs).mono ?_; rintro r w4 ⟨rfl, b4⟩)) | ((go_at_call 24; refine (end_any (by first | assumption | exact S3.tape (by assumption))).mono ?_; rintro r w4 ⟨rfl, rfl⟩)) | ((go_at_call 25; refine (rend_any _ _ _).mono ?_; rintro r w4 ⟨rfl, b4⟩)))
  have h3 : S3 w b X s 0 w4 := by assumption
  have HT4 : TapeAt w4 b s 0 := h3.tape
  have HB4 : BoxAt w4 X s 0 := h3.2.2.2.1
  have HW4 : Below w.heap.size w w4 := h3.2.2.2.2
  clear hS3 h3
  go_wp2_with fail
  go_loopw [9, 10, 11] (fun i _ _ wq => ∃ (k : Nat) (s1 : ByteArray) (e1 : Int), i = .int .i64 k ∧ k ≤ n ∧ s1.size ≤ 281474976710656 ∧ TapeAt wq b s1 e1 ∧ BoxAt wq X s1 e1 ∧ Below w.heap.size w wq) (fun i _ _ _ => n - (intOf i).toNat)
  case atStart => exact ⟨0, s, 0, rfl, Nat.zero_le _, hs, HT4, HB4, HW4⟩
  case round =>
    obtain ⟨k, s1, e1, rfl, hk, hs1, hT, hB, hW⟩ := hrel
    have HWh := Lib.hid hW
    clear hW HT4 HB4 HW4
    by_cases hkn : k < n
    · by_cases hk100 : k < 100
      · obtain ⟨ba, o, rfl, hbl, hc0, x0, x1⟩ := HX.out k (by rw [HN.out]; exact hkn)
        have hc : wr.cell? ⟨ba, o + k, none⟩ = some (.int .u8 (xs[k]'(by rw [HN.out]; exact hkn))) := by rw [HWh.out.cell (p := ⟨ba, _, none⟩) hbl]; exact hc0
        clear hc0
        generalize xs[k]'(by rw [HN.out]; exact hkn) = x at *
        have hbt := hT.lt
        have hXt := hB.lt
        have hbX' : X ≠ b := by omega
        have h8 : S8 w X ba (o + k) x s1 e1 wr := S8.of hB hc HWh.out hbl
        have TD : TapeAt wr.drew b s1 e1 := hT.next ((Below.refl wr.heap.size wr).drew)
        have TA : TapeAt (wr.drew.alloc (.cells #[.string ⟨#[]⟩, .int .i64 0] 37)) b s1 e1 := TD.next ((Below.refl wr.drew.heap.size wr.drew).alloc (Nat.le_refl _) _)
        have hwx : IntKind.i64.wrap x = x := IntWalk.i64_in _ (by omega)
        go_wp2_with fail
        go_region_held3 (fun w' => w'.cell? ⟨X, 0, none⟩ = some (.string s1) ∧ w'.cell? ⟨X, 1, none⟩ = some (.int .i64 e1) ∧ w'.cell? ⟨ba, o + k, none⟩ = some (.int .u8 x) ∧ BoxAt w' X s1 e1 ∧ Below w.heap.size w w' ∧ ba < w.heap.size)
          (first | assumption | exact S8.drew (by assumption) | exact S8.alloc (by assumption) _ | exact S8.grown (by assumption) (by assumption) hbX' hb | exact S8.set (by assumption) (by first | omega | (simp; omega)) (by first | omega | (simp; omega)) _ _)
          (first | ((go_at_call 26; refine (read_any (by first | exact TD | exact TA) hs1 _ most M0.out M1.out x0 x1).mono ?_; rintro r w4 ⟨s2, e2, hle, rfl, t4, g4⟩; have k4 : S8 w X ba (o + k) x s1 e1 w4 := S8.grown (by assumption) g4 hbX' hb; try (have f4 : BoxAt w4 wr.heap.size ⟨#[]⟩ 0 := BoxAt.grown (w := wr.drew.alloc (.cells #[.string ⟨#[]⟩, .int .i64 0] 37)) (box_new wr.drew ⟨#[]⟩ 0) g4 (by omega); have y0 := f4.c0; have y1 := f4.c1; have yf0 := f4.f 0; have yf1 := f4.f 1))))
        · obtain ⟨W5, hW5, hY, hX5, hT5, hB5⟩ : ∃ W5, W5 = w4.alloc (.cells #[.string s2, .int .i64 e2] 37) ∧ BoxAt W5 w4.heap.size s2 e2 ∧ BoxAt W5 X s1 e1 ∧ TapeAt W5 b s2 e2 ∧ Below w.heap.size w W5 :=
            ⟨_, rfl, box_new w4 s2 e2, (k4.alloc _).2.2.2.1, t4.next ((Below.refl _ _).alloc (Nat.le_refl _) _), (k4.alloc _).2.2.2.2.1⟩
          rw [← hW5]
          generalize w4.heap.size = Y at *
          have y0 := hY.c0
          have y1 := hY.c1
          have x0' := hX5.c0
          have x1' := hX5.c1
          have xf0 := hX5.f 0
          have xf1 := hX5.f 1
          clear hW5 k4 t4 g4 h8 TD TA hwx hc hT hB
          go_wp2_with fail
          go_roundw
          case rel => exact ⟨k + 1, s2, e2, by go_num, by omega, by omega, (hT5.other (by omega) 0 _).other (by omega) 1 _, hX5.set, (hB5.setCell (p := ⟨X, 0, none⟩) hXw _).setCell (p := ⟨X, 1, none⟩) hXw _⟩
          case measure => simp [intOf]; omega
        · have hwY : w.heap.size ≤ wr.heap.size := HWh.out.size
          obtain ⟨W5, hW5, hY, hX5, hT5, hB5⟩ : ∃ W5, W5 = (w4.setCell ⟨wr.heap.size, 0, none⟩ (.string s2)).setCell ⟨wr.heap.size, 1, none⟩ (.int .i64 e2) ∧ BoxAt W5 wr.heap.size s2 e2 ∧ BoxAt W5 X s1 e1 ∧ TapeAt W5 b s2 e2 ∧ Below w.heap.size w W5 :=
            ⟨_, rfl, f4.set, (k4.set hwY (by omega) _ _).2.2.2.1, (t4.other (by omega) 0 _).other (by omega) 1 _, (k4.set hwY (by omega) _ _).2.2.2.2.1⟩
          rw [← hW5]
          clear f4 y0 y1 yf0 yf1
          generalize wr.heap.size = Y at *
          have y0 := hY.c0
          have y1 := hY.c1
          have x0' := hX5.c0
          have x1' := hX5.c1
          have xf0 := hX5.f 0
          have xf1 := hX5.f 1
          clear hW5 k4 t4 g4 h8 TD TA hwx hc hT hB
          go_wp2_with fail
          go_roundw
          case rel => exact ⟨k + 1, s2, e2, by go_num, by omega, by omega, (hT5.other (by omega) 0 _).other (by omega) 1 _, hX5.set, (hB5.setCell (p := ⟨X, 0, none⟩) hXw _).setCell (p := ⟨X, 1, none⟩) hXw _⟩
          case measure => simp [intOf]; omega
      · have hk2 : (100 : Int) ≤ (k : Int) := by omega
        go_wp2_with fail
        go_ret
        exact ⟨by simp, HWh.out⟩
    · obtain rfl : k = n := by omega
      go_wp2_with fail
      go_ret
      exact ⟨by simp, HWh.out⟩
end Go.Proofs.Ytpnkdpmhphhenaa
