/-
  THE DOCUMENT's One.
-/
import Derived.Test.YtffneogphgodnaaDoorRef1
import Derived.Test.YtffneogphgodnaaDoorRef2
import Derived.Test.YtffneogphgodnaaDoorRef4
import Derived.Deep.DeepCutAuto
import Derived.Deep.CutBlock
import Derived.Outline
namespace Go.Proofs.YtffneogphgodnaaDoor
open Go.RowKit
theorem span_pos {p : Int → Bool} {l : List UInt8} {b : UInt8} (h : l.head? = some b) (hb : p (b.toNat : Int) = true) : spanN p l ≠ 0 := by
  cases l with
  | nil => cases h
  | cons c l =>
    obtain rfl : c = b := Option.some.inj h
    unfold spanN
    rw [List.takeWhile_cons, if_pos hb]
    simp
theorem one_at {s : ByteArray} {a : Nat} (h : a < s.size) {c : Int} (hc : (s[a].toNat : Int) = c) : oneT (rst s a) = if lettB c then wordT (rst s a) else if digB c || decide (c = 45) then numT (rst s a) else if c = 39 then textT (rst s a) else if c = 35 then bitsT (rst s a) else signT (rst s a) := by
  have e : hd (rst s a) = c := by unfold hd; rw [rst_headD s a h]; exact hc
  unfold oneT
  rw [e]
theorem sgnB_mem {b : UInt8} {c : Int} (hc : (b.toNat : Int) = c) : sgnB c = decide (b ∈ signs) := by
  unfold sgnB
  rw [Bool.eq_iff_iff, List.any_eq_true, decide_eq_true_eq]
  constructor
  · rintro ⟨x, hx, e⟩
    have e : (x.toNat : Int) = c := by simpa using e
    have : x = b := UInt8.toNat_inj.1 (by omega)
    rw [← this]; exact hx
  · intro hb
    exact ⟨b, hb, by simpa using hc⟩
/-- the sign of two bytes -/
theorem sg_two {s : ByteArray} {a : Nat} (h : a + 1 < s.size) {c : Int} (hc : (s[a].toNat : Int) = c) (h61 : (s[a + 1].toNat : Int) = 61) (h3 : c = 33 ∨ c = 60 ∨ c = 62) : signT (rst s a) = ⟨4, 2, 0, ⟨#[]⟩⟩ := by
  have e1 : s[a + 1] = 61 := UInt8.toNat_inj.1 (by have : s[a + 1].toNat = 61 := by omega
                                                   exact this)
  have e0 : s[a] ∈ ([33, 60, 62] : List UInt8) := by
    rcases h3 with h | h | h
    · have : s[a] = 33 := UInt8.toNat_inj.1 (by have : s[a].toNat = 33 := by omega
                                                exact this)
      rw [this]; decide
    · have : s[a] = 60 := UInt8.toNat_inj.1 (by have : s[a].toNat = 60 := by omega
                                                exact this)
      rw [this]; decide
    · have : s[a] = 62 := UInt8.toNat_inj.1 (by have : s[a].toNat = 62 := by omega
                                                exact this)
      rw [this]; decide
  have es : s[a] ∈ signs := by
    simp only [List.mem_cons, List.not_mem_nil, or_false] at e0
    rcases e0 with h | h | h <;> rw [h] <;> decide
  unfold signT twoB
  rw [rst_headD s a (by omega), rst_size, rst_get s a 1 h, e1, if_pos es, if_pos]
  rw [decide_eq_true (show 1 < s.size - a by omega), decide_eq_true e0]; rfl
/-- no sign of two bytes -/
theorem sg_not {s : ByteArray} {a : Nat} (ha : a < s.size) {c : Int} (hc : (s[a].toNat : Int) = c) (h : s.size ≤ a + 1 ∨ (∃ h : a + 1 < s.size, (s[a + 1].toNat : Int) ≠ 61) ∨ ¬ (c = 33 ∨ c = 60 ∨ c = 62)) : signT (rst s a) = if sgnB c then ⟨4, 1, 0, ⟨#[]⟩⟩ else t0 := by
  rw [sgnB_mem hc]
  have hb : twoB (rst s a) = false := by
    unfold twoB
    rw [rst_headD s a ha, rst_size]
    rcases h with h | ⟨h, h61⟩ | h
    · rw [decide_eq_false (by omega)]; rfl
    · rw [rst_get s a 1 h, decide_eq_false (p := s[a + 1] = 61) (fun e => h61 (by rw [e]; rfl))]; simp
    · rw [decide_eq_false (p := s[a] ∈ ([33, 60, 62] : List UInt8)) (fun e => h (by
        simp only [List.mem_cons, List.not_mem_nil, or_false] at e
        rcases e with e | e | e
        · left; rw [← hc, e]; rfl
        · right; left; rw [← hc, e]; rfl
        · right; right; rw [← hc, e]; rfl))]; simp
  unfold signT
  rw [rst_headD s a ha, hb]
  by_cases hm : s[a] ∈ signs
  · rw [if_pos hm, decide_eq_true hm]; rfl
  · rw [if_neg hm, decide_eq_false hm]; rfl
theorem sg_one {s : ByteArray} {a : Nat} {w w5 : World} {c : Int} {bb : Bool} (ha : a < s.size) (h : signT (rst s a) = if sgnB c then ⟨4, 1, 0, ⟨#[]⟩⟩ else t0) (hb : sgnB c = bb) (b : Below w.heap.size w w5) : Ond w s a (signT (rst s a)) (.returned (.tuple #[.agg #[.int .i64 4, .int .i64 a, .string (s.extract a (a + 1)), .int .i64 0, .string ⟨#[]⟩], .bool bb])) w5 := by
  rw [h, hb]
  cases bb
  · exact ⟨4, a, s.extract a (a + 1), 0, ⟨#[]⟩, rfl, fun h => absurd rfl h, b⟩
  · exact ond_ok (by decide) ⟨rfl, rfl, by rw [if_pos rfl]; show _ = (rst s a).extract 0 1; rw [rst_sub s a 1 (by omega)], rfl, rfl⟩ b
/-- behind the loop of a word -/
def WordEnd (s : ByteArray) (a : Nat) (w0 : World) (i : Value) (wx : World) : Prop := w0 = wx ∧ ∃ k : Nat, i = .int .i64 (a + k : Nat) ∧ a + k ≤ s.size ∧ spanN wordB (bl (rst s a)) = k
set_option maxHeartbeats 16000000 in
set_option maxRecDepth 100000 in
/-- the document's One: the token at a place -/
theorem rone_any (s : ByteArray) (a : Nat) (ha : a < s.size) (hs : s.size ≤ 4096) (w : World) : Calls Tryd.prog 21 #[.string s, .int .i64 a] w (Ond w s a (oneT (rst s a))) := by
  generalize hy : w.heap.size = Y at *
  obtain ⟨w0, hw0, N0, B0⟩ : ∃ w0, w0 = w.alloc (.cells #[.int .i64 0, .int .i64 0, .string ⟨#[]⟩, .int .i64 0, .string ⟨#[]⟩] 39) ∧ Blk w0 Y 39 #[.int .i64 0, .int .i64 0, .string ⟨#[]⟩, .int .i64 0, .string ⟨#[]⟩] ∧ Below Y w w0 :=
    ⟨_, rfl, by rw [← hy]; exact Blk.new w 39 _, by rw [← hy]; exact (Below.refl _ _).alloc (Nat.le_refl _) _⟩
  have W0 := Lib.hid hw0
  have N0h := Lib.hid N0
  have B0h := Lib.hid B0
  clear hw0 N0 B0
  obtain ⟨c, hc⟩ : ∃ c : Int, (s[a].toNat : Int) = c := ⟨_, rfl⟩
  have hOne := one_at ha hc
  have hhead := rst_head s a ha
  have SPh := Lib.hid (fun (h : wordB c = true) => span_pos (p := wordB) hhead (by rw [hc]; exact h))
  have SM := Lib.hid (small_any c)
  have DG := Lib.hid (rdigit_any c)
  have SI := Lib.hid (single_any c)
  have hWB : wordB c = (lettB c || digB c || decide (c = 95)) := rfl
  rw [hWB] at SPh
  obtain ⟨sB, hsB⟩ : ∃ sB, sgnB c = sB := ⟨_, rfl⟩
  rw [hsB] at SI
  have SB := Lib.hid hsB
  have NT := Lib.hid (fun h => sg_not (c := c) ha hc h)
  have TW := Lib.hid (fun h h61 h3 => sg_two (s := s) (a := a) h hc h61 h3)
  clear hhead hWB hsB
  generalize hbL : lettB c = bL at *
  generalize hbD : digB c = bD at *
  clear hbL hbD
  cases bL
  · by_cases h45 : c = 45
    · have d45 : (c == 45) = true := by simpa using h45
      have h45' : decide (c = 45) = true := decide_eq_true h45
      go_enter Tryd.func21, Tryd.ntmps21
      have HO := Lib.hid (show oneT (rst s a) = numT (rst s a) by rw [hOne, h45']; simp)
      have TK := Lib.hid (rnumber_any s a ha hs)
      clear hOne
      unfold Ond tokV at TK
      obtain ⟨bb, hbb⟩ : ∃ bb, decide ((numT (rst s a)).m ≠ 0) = bb := ⟨_, rfl⟩
      rw [hbb] at TK
      have HB := Lib.hid hbb
      clear hbb
      clear h45 h45'
      go_wp2_with fail
      rw [← W0.out]
      refine (SM.out _).mono ?_
      rintro e wq ⟨rfl, rfl⟩
      go_upto_region 8 with fail
      go_wp2_with fail
      refine (TK.out _).mono ?_
      rintro e w1 ⟨x1, x2, x3, x4, x5, rfl, hh, b1⟩
      have HH := Lib.hid hh
      have N1h := Lib.hid (N0h.out.below b1)
      have B1h := Lib.hid (B0h.out.trans (b1.mono (by have := N0h.out.lt; omega)))
      clear hh b1 TK
      obtain ⟨w5, hw5, N5, B5⟩ : ∃ w5, w5 = ((((w1.setCell ⟨Y, 0, none⟩ (.int .i64 x1)).setCell ⟨Y, 1, none⟩ (.int .i64 x2)).setCell ⟨Y, 2, none⟩ (.string x3)).setCell ⟨Y, 3, none⟩ (.int .i64 x4)).setCell ⟨Y, 4, none⟩ (.string x5) ∧ Blk w5 Y 39 #[.int .i64 x1, .int .i64 x2, .string x3, .int .i64 x4, .string x5] ∧ Below Y w w5 :=
        ⟨_, rfl, ((((N1h.out.set 0 _).set 1 _).set 2 _).set 3 _).set 4 _, ((((B1h.out.setCell (p := ⟨Y, 0, none⟩) (Nat.le_refl _) _).setCell (p := ⟨Y, 1, none⟩) (Nat.le_refl _) _).setCell (p := ⟨Y, 2, none⟩) (Nat.le_refl _) _).setCell (p := ⟨Y, 3, none⟩) (Nat.le_refl _) _).setCell (p := ⟨Y, 4, none⟩) (Nat.le_refl _) _⟩
      have W5 := Lib.hid hw5
      have N5h := Lib.hid N5
      have B5h := Lib.hid B5
      clear hw5 N5 B5
      have z0 := N1h.out.cell 0
      have f0 := N1h.out.free 0
      have z1 := N1h.out.cell 1
      have f1 := N1h.out.free 1
      have z2 := N1h.out.cell 2
      have f2 := N1h.out.free 2
      have z3 := N1h.out.cell 3
      have f3 := N1h.out.free 3
      have z4 := N1h.out.cell 4
      have f4 := N1h.out.free 4
      go_wp2_with fail
      rw [← W5.out]
      have y0 := N5h.out.cell 0
      have y1 := N5h.out.cell 1
      have y2 := N5h.out.cell 2
      have y3 := N5h.out.cell 3
      have y4 := N5h.out.cell 4
      refine bodyPost_ret (by simp [results, Tryd.results21, go_sem, y0, y1, y2, y3, y4]; try rfl) rfl ?_
      rw [HO.out]
      exact ⟨x1, x2, x3, x4, x5, by rw [HB.out]; rfl, HH.out, by rw [hy]; exact B5h.out⟩
    have d45 : (c == 45) = false := by simpa using h45
    have h45' : decide (c = 45) = false := decide_eq_false h45
    cases bD
    · by_cases h39 : c = 39
      · have d39 : (c == 39) = true := by simpa using h39
        go_enter Tryd.func21, Tryd.ntmps21
        have HO := Lib.hid (show oneT (rst s a) = textT (rst s a) by rw [hOne, h45', h39]; simp)
        have TK := Lib.hid (rtext_any s a ha hs)
        clear hOne
        unfold Ond tokV at TK
        obtain ⟨bb, hbb⟩ : ∃ bb, decide ((textT (rst s a)).m ≠ 0) = bb := ⟨_, rfl⟩
        rw [hbb] at TK
        have HB := Lib.hid hbb
        clear hbb
        clear h45 h45' h39
        go_wp2_with fail
        rw [← W0.out]
        refine (SM.out _).mono ?_
        rintro e wq ⟨rfl, rfl⟩
        go_wp2_with fail
        refine (DG.out _).mono ?_
        rintro e wq ⟨rfl, rfl⟩
        go_upto_region 10 with fail
        go_wp2_with fail
        refine (TK.out _).mono ?_
        rintro e w1 ⟨x1, x2, x3, x4, x5, rfl, hh, b1⟩
        have HH := Lib.hid hh
        have N1h := Lib.hid (N0h.out.below b1)
        have B1h := Lib.hid (B0h.out.trans (b1.mono (by have := N0h.out.lt; omega)))
        clear hh b1 TK
        obtain ⟨w5, hw5, N5, B5⟩ : ∃ w5, w5 = ((((w1.setCell ⟨Y, 0, none⟩ (.int .i64 x1)).setCell ⟨Y, 1, none⟩ (.int .i64 x2)).setCell ⟨Y, 2, none⟩ (.string x3)).setCell ⟨Y, 3, none⟩ (.int .i64 x4)).setCell ⟨Y, 4, none⟩ (.string x5) ∧ Blk w5 Y 39 #[.int .i64 x1, .int .i64 x2, .string x3, .int .i64 x4, .string x5] ∧ Below Y w w5 :=
          ⟨_, rfl, ((((N1h.out.set 0 _).set 1 _).set 2 _).set 3 _).set 4 _, ((((B1h.out.setCell (p := ⟨Y, 0, none⟩) (Nat.le_refl _) _).setCell (p := ⟨Y, 1, none⟩) (Nat.le_refl _) _).setCell (p := ⟨Y, 2, none⟩) (Nat.le_refl _) _).setCell (p := ⟨Y, 3, none⟩) (Nat.le_refl _) _).setCell (p := ⟨Y, 4, none⟩) (Nat.le_refl _) _⟩
        have W5 := Lib.hid hw5
        have N5h := Lib.hid N5
        have B5h := Lib.hid B5
        clear hw5 N5 B5
        have z0 := N1h.out.cell 0
        have f0 := N1h.out.free 0
        have z1 := N1h.out.cell 1
        have f1 := N1h.out.free 1
        have z2 := N1h.out.cell 2
        have f2 := N1h.out.free 2
        have z3 := N1h.out.cell 3
        have f3 := N1h.out.free 3
        have z4 := N1h.out.cell 4
        have f4 := N1h.out.free 4
        go_wp2_with fail
        rw [← W5.out]
        have y0 := N5h.out.cell 0
        have y1 := N5h.out.cell 1
        have y2 := N5h.out.cell 2
        have y3 := N5h.out.cell 3
        have y4 := N5h.out.cell 4
        refine bodyPost_ret (by simp [results, Tryd.results21, go_sem, y0, y1, y2, y3, y4]; try rfl) rfl ?_
        rw [HO.out]
        exact ⟨x1, x2, x3, x4, x5, by rw [HB.out]; rfl, HH.out, by rw [hy]; exact B5h.out⟩
      have d39 : (c == 39) = false := by simpa using h39
      by_cases h35 : c = 35
      · have d35 : (c == 35) = true := by simpa using h35
        go_enter Tryd.func21, Tryd.ntmps21
        have HO := Lib.hid (show oneT (rst s a) = bitsT (rst s a) by rw [hOne, h45', if_neg (by decide), if_neg (by decide), if_neg h39, if_pos h35])
        have TK := Lib.hid (rbits_any s a ha hs)
        clear hOne
        unfold Ond tokV at TK
        obtain ⟨bb, hbb⟩ : ∃ bb, decide ((bitsT (rst s a)).m ≠ 0) = bb := ⟨_, rfl⟩
        rw [hbb] at TK
        have HB := Lib.hid hbb
        clear hbb
        clear h45 h45' h39 h35
        go_wp2_with fail
        rw [← W0.out]
        refine (SM.out _).mono ?_
        rintro e wq ⟨rfl, rfl⟩
        go_wp2_with fail
        refine (DG.out _).mono ?_
        rintro e wq ⟨rfl, rfl⟩
        go_upto_region 12 with fail
        go_wp2_with fail
        refine (TK.out _).mono ?_
        rintro e w1 ⟨x1, x2, x3, x4, x5, rfl, hh, b1⟩
        have HH := Lib.hid hh
        have N1h := Lib.hid (N0h.out.below b1)
        have B1h := Lib.hid (B0h.out.trans (b1.mono (by have := N0h.out.lt; omega)))
        clear hh b1 TK
        obtain ⟨w5, hw5, N5, B5⟩ : ∃ w5, w5 = ((((w1.setCell ⟨Y, 0, none⟩ (.int .i64 x1)).setCell ⟨Y, 1, none⟩ (.int .i64 x2)).setCell ⟨Y, 2, none⟩ (.string x3)).setCell ⟨Y, 3, none⟩ (.int .i64 x4)).setCell ⟨Y, 4, none⟩ (.string x5) ∧ Blk w5 Y 39 #[.int .i64 x1, .int .i64 x2, .string x3, .int .i64 x4, .string x5] ∧ Below Y w w5 :=
          ⟨_, rfl, ((((N1h.out.set 0 _).set 1 _).set 2 _).set 3 _).set 4 _, ((((B1h.out.setCell (p := ⟨Y, 0, none⟩) (Nat.le_refl _) _).setCell (p := ⟨Y, 1, none⟩) (Nat.le_refl _) _).setCell (p := ⟨Y, 2, none⟩) (Nat.le_refl _) _).setCell (p := ⟨Y, 3, none⟩) (Nat.le_refl _) _).setCell (p := ⟨Y, 4, none⟩) (Nat.le_refl _) _⟩
        have W5 := Lib.hid hw5
        have N5h := Lib.hid N5
        have B5h := Lib.hid B5
        clear hw5 N5 B5
        have z0 := N1h.out.cell 0
        have f0 := N1h.out.free 0
        have z1 := N1h.out.cell 1
        have f1 := N1h.out.free 1
        have z2 := N1h.out.cell 2
        have f2 := N1h.out.free 2
        have z3 := N1h.out.cell 3
        have f3 := N1h.out.free 3
        have z4 := N1h.out.cell 4
        have f4 := N1h.out.free 4
        go_wp2_with fail
        rw [← W5.out]
        have y0 := N5h.out.cell 0
        have y1 := N5h.out.cell 1
        have y2 := N5h.out.cell 2
        have y3 := N5h.out.cell 3
        have y4 := N5h.out.cell 4
        refine bodyPost_ret (by simp [results, Tryd.results21, go_sem, y0, y1, y2, y3, y4]; try rfl) rfl ?_
        rw [HO.out]
        exact ⟨x1, x2, x3, x4, x5, by rw [HB.out]; rfl, HH.out, by rw [hy]; exact B5h.out⟩
      have d35 : (c == 35) = false := by simpa using h35
      have RES := Lib.hid (show oneT (rst s a) = signT (rst s a) by rw [hOne, h45', if_neg (by decide), if_neg (by decide), if_neg h39, if_neg h35])
      clear hOne h45 h45' h39 h35 SPh
      by_cases hT : ∃ h : a + 1 < s.size, (s[a + 1].toNat : Int) = 61 ∧ (c = 33 ∨ c = 60 ∨ c = 62)
      · obtain ⟨h1, h61, h3⟩ := hT
        have SG := Lib.hid (TW.out h1 h61 h3)
        have d61 : ((s[a + 1].toNat : Int) == 61) = true := by simpa using h61
        have h1i : ((a : Int) + 1) < (s.size : Int) := by omega
        clear TW NT h61
        have h3' : ((c == 33) = true ∧ True ∧ True) ∨ ((c == 33) = false ∧ (c == 60) = true ∧ True) ∨ ((c == 33) = false ∧ (c == 60) = false ∧ (c == 62) = true) := by
          rcases h3 with rfl | rfl | rfl
          · exact .inl ⟨rfl, trivial, trivial⟩
          · exact .inr (.inl ⟨rfl, rfl, trivial⟩)
          · exact .inr (.inr ⟨rfl, rfl, rfl⟩)
        clear h3
        rcases h3' with ⟨e1, e2, e3⟩ | ⟨e1, e2, e3⟩ | ⟨e1, e2, e3⟩
        all_goals
          go_enter Tryd.func21, Tryd.ntmps21
          go_wp2_with fail
          rw [← W0.out]
          refine (SM.out _).mono ?_
          rintro e wq ⟨rfl, rfl⟩
          go_wp2_with fail
          refine (DG.out _).mono ?_
          rintro e wq ⟨rfl, rfl⟩
          obtain ⟨w5, hw5, N5, B5⟩ : ∃ w5, w5 = ((((w0.setCell ⟨Y, 0, none⟩ (.int .i64 4)).setCell ⟨Y, 1, none⟩ (.int .i64 a)).setCell ⟨Y, 2, none⟩ (.string (s.extract a (a + 2)))).setCell ⟨Y, 3, none⟩ (.int .i64 0)).setCell ⟨Y, 4, none⟩ (.string ⟨#[]⟩) ∧ Blk w5 Y 39 #[.int .i64 4, .int .i64 a, .string (s.extract a (a + 2)), .int .i64 0, .string ⟨#[]⟩] ∧ Below Y w w5 :=
            ⟨_, rfl, ((((N0h.out.set 0 _).set 1 _).set 2 _).set 3 _).set 4 _, ((((B0h.out.setCell (p := ⟨Y, 0, none⟩) (Nat.le_refl _) _).setCell (p := ⟨Y, 1, none⟩) (Nat.le_refl _) _).setCell (p := ⟨Y, 2, none⟩) (Nat.le_refl _) _).setCell (p := ⟨Y, 3, none⟩) (Nat.le_refl _) _).setCell (p := ⟨Y, 4, none⟩) (Nat.le_refl _) _⟩
          have W5 := Lib.hid hw5
          have N5h := Lib.hid N5
          have B5h := Lib.hid B5
          clear hw5 N5 B5
          go_upto_region 14 with fail
          have z0 := N0h.out.cell 0
          have f0 := N0h.out.free 0
          have z1 := N0h.out.cell 1
          have f1 := N0h.out.free 1
          have z2 := N0h.out.cell 2
          have f2 := N0h.out.free 2
          have z3 := N0h.out.cell 3
          have f3 := N0h.out.free 3
          have z4 := N0h.out.cell 4
          have f4 := N0h.out.free 4
          go_wp2_with fail
          rw [← W5.out]
          have y0 := N5h.out.cell 0
          have y1 := N5h.out.cell 1
          have y2 := N5h.out.cell 2
          have y3 := N5h.out.cell 3
          have y4 := N5h.out.cell 4
          refine bodyPost_ret (by simp [results, Tryd.results21, go_sem, y0, y1, y2, y3, y4]; try rfl) rfl ?_
          rw [RES.out, SG.out]
          exact ond_ok (by decide) ⟨rfl, rfl, by rw [rst_sub s a 2 (by omega)], rfl, rfl⟩ (by rw [hy]; exact B5h.out)
      · have hN : s.size ≤ a + 1 ∨ (∃ h : a + 1 < s.size, (s[a + 1].toNat : Int) ≠ 61) ∨ ((∃ h : a + 1 < s.size, (s[a + 1].toNat : Int) = 61) ∧ ¬ (c = 33 ∨ c = 60 ∨ c = 62)) := by
          by_cases h1 : a + 1 < s.size
          · by_cases h61 : (s[a + 1].toNat : Int) = 61
            · exact .inr (.inr ⟨⟨h1, h61⟩, fun h => hT ⟨h1, h61, h⟩⟩)
            · exact .inr (.inl ⟨h1, h61⟩)
          · exact .inl (by omega)
        have SG := Lib.hid (NT.out (by rcases hN with h | h | ⟨_, h⟩; exact .inl h; exact .inr (.inl h); exact .inr (.inr h)))
        clear hT TW NT
        have hM : ((decide ((a : Int) + 1 < (s.size : Int)) = false ∧ (s.size : Int) ≤ (a : Int) + 1) ∨ (∃ h : a + 1 < s.size, ((s[a + 1].toNat : Int) == 61) = false) ∨ (∃ h : a + 1 < s.size, ((s[a + 1].toNat : Int) == 61) = true ∧ (c == 33) = false ∧ (c == 60) = false ∧ (c == 62) = false)) := by
          rcases hN with h | ⟨h, h61⟩ | ⟨⟨h, h61⟩, h3⟩
          · exact .inl ⟨decide_eq_false (by omega), by omega⟩
          · exact .inr (.inl ⟨h, by simpa using h61⟩)
          · simp only [not_or] at h3
            exact .inr (.inr ⟨h, by simpa using h61, by simpa using h3.1, by simpa using h3.2.1, by simpa using h3.2.2⟩)
        clear hN
        rcases hM with ⟨e0, e1⟩ | ⟨e0, e1⟩ | ⟨e0, e1, e2, e3, e4⟩
        all_goals
          go_enter Tryd.func21, Tryd.ntmps21
          go_wp2_with fail
          rw [← W0.out]
          refine (SM.out _).mono ?_
          rintro e wq ⟨rfl, rfl⟩
          go_wp2_with fail
          refine (DG.out _).mono ?_
          rintro e wq ⟨rfl, rfl⟩
          obtain ⟨w5, hw5, N5, B5⟩ : ∃ w5, w5 = ((((w0.setCell ⟨Y, 0, none⟩ (.int .i64 4)).setCell ⟨Y, 1, none⟩ (.int .i64 a)).setCell ⟨Y, 2, none⟩ (.string (s.extract a (a + 1)))).setCell ⟨Y, 3, none⟩ (.int .i64 0)).setCell ⟨Y, 4, none⟩ (.string ⟨#[]⟩) ∧ Blk w5 Y 39 #[.int .i64 4, .int .i64 a, .string (s.extract a (a + 1)), .int .i64 0, .string ⟨#[]⟩] ∧ Below Y w w5 :=
            ⟨_, rfl, ((((N0h.out.set 0 _).set 1 _).set 2 _).set 3 _).set 4 _, ((((B0h.out.setCell (p := ⟨Y, 0, none⟩) (Nat.le_refl _) _).setCell (p := ⟨Y, 1, none⟩) (Nat.le_refl _) _).setCell (p := ⟨Y, 2, none⟩) (Nat.le_refl _) _).setCell (p := ⟨Y, 3, none⟩) (Nat.le_refl _) _).setCell (p := ⟨Y, 4, none⟩) (Nat.le_refl _) _⟩
          have W5 := Lib.hid hw5
          have N5h := Lib.hid N5
          have B5h := Lib.hid B5
          clear hw5 N5 B5
          go_upto_region 15 with fail
          try clear e1
          try clear e0
          have hw2 : IntKind.i64.wrap ((a : Int) + 1) = ((a + 1 : Nat) : Int) := IntWalk.i64_in _ (by omega)
          have hw3 : a + 1 ≤ s.size := by omega
          have z0 := N0h.out.cell 0
          have f0 := N0h.out.free 0
          have z1 := N0h.out.cell 1
          have f1 := N0h.out.free 1
          have z2 := N0h.out.cell 2
          have f2 := N0h.out.free 2
          have z3 := N0h.out.cell 3
          have f3 := N0h.out.free 3
          have z4 := N0h.out.cell 4
          have f4 := N0h.out.free 4
          go_region_with ((go_at_call 37; refine (SI.out _).mono ?_; rintro e wq ⟨rfl, rfl⟩))
          all_goals
            go_wp2_with fail
            rw [← W5.out]
            have y0 := N5h.out.cell 0
            have y1 := N5h.out.cell 1
            have y2 := N5h.out.cell 2
            have y3 := N5h.out.cell 3
            have y4 := N5h.out.cell 4
            refine bodyPost_ret (by simp [results, Tryd.results21, go_sem, y0, y1, y2, y3, y4]; try rfl) rfl ?_
            rw [RES.out]
            refine sg_one ha SG.out SB.out (by rw [hy]; exact below_drew B5h.out)
    · clear SPh
      go_enter Tryd.func21, Tryd.ntmps21
      have HO := Lib.hid (show oneT (rst s a) = numT (rst s a) by rw [hOne]; simp)
      have TK := Lib.hid (rnumber_any s a ha hs)
      clear hOne
      unfold Ond tokV at TK
      obtain ⟨bb, hbb⟩ : ∃ bb, decide ((numT (rst s a)).m ≠ 0) = bb := ⟨_, rfl⟩
      rw [hbb] at TK
      have HB := Lib.hid hbb
      clear hbb
      clear h45 h45'
      go_wp2_with fail
      rw [← W0.out]
      refine (SM.out _).mono ?_
      rintro e wq ⟨rfl, rfl⟩
      go_wp2_with fail
      refine (DG.out _).mono ?_
      rintro e wq ⟨rfl, rfl⟩
      go_upto_region 8 with fail
      go_wp2_with fail
      refine (TK.out _).mono ?_
      rintro e w1 ⟨x1, x2, x3, x4, x5, rfl, hh, b1⟩
      have HH := Lib.hid hh
      have N1h := Lib.hid (N0h.out.below b1)
      have B1h := Lib.hid (B0h.out.trans (b1.mono (by have := N0h.out.lt; omega)))
      clear hh b1 TK
      obtain ⟨w5, hw5, N5, B5⟩ : ∃ w5, w5 = ((((w1.setCell ⟨Y, 0, none⟩ (.int .i64 x1)).setCell ⟨Y, 1, none⟩ (.int .i64 x2)).setCell ⟨Y, 2, none⟩ (.string x3)).setCell ⟨Y, 3, none⟩ (.int .i64 x4)).setCell ⟨Y, 4, none⟩ (.string x5) ∧ Blk w5 Y 39 #[.int .i64 x1, .int .i64 x2, .string x3, .int .i64 x4, .string x5] ∧ Below Y w w5 :=
        ⟨_, rfl, ((((N1h.out.set 0 _).set 1 _).set 2 _).set 3 _).set 4 _, ((((B1h.out.setCell (p := ⟨Y, 0, none⟩) (Nat.le_refl _) _).setCell (p := ⟨Y, 1, none⟩) (Nat.le_refl _) _).setCell (p := ⟨Y, 2, none⟩) (Nat.le_refl _) _).setCell (p := ⟨Y, 3, none⟩) (Nat.le_refl _) _).setCell (p := ⟨Y, 4, none⟩) (Nat.le_refl _) _⟩
      have W5 := Lib.hid hw5
      have N5h := Lib.hid N5
      have B5h := Lib.hid B5
      clear hw5 N5 B5
      have z0 := N1h.out.cell 0
      have f0 := N1h.out.free 0
      have z1 := N1h.out.cell 1
      have f1 := N1h.out.free 1
      have z2 := N1h.out.cell 2
      have f2 := N1h.out.free 2
      have z3 := N1h.out.cell 3
      have f3 := N1h.out.free 3
      have z4 := N1h.out.cell 4
      have f4 := N1h.out.free 4
      go_wp2_with fail
      rw [← W5.out]
      have y0 := N5h.out.cell 0
      have y1 := N5h.out.cell 1
      have y2 := N5h.out.cell 2
      have y3 := N5h.out.cell 3
      have y4 := N5h.out.cell 4
      refine bodyPost_ret (by simp [results, Tryd.results21, go_sem, y0, y1, y2, y3, y4]; try rfl) rfl ?_
      rw [HO.out]
      exact ⟨x1, x2, x3, x4, x5, by rw [HB.out]; rfl, HH.out, by rw [hy]; exact B5h.out⟩
  · have RES := Lib.hid (show oneT (rst s a) = wordT (rst s a) from hOne)
    have SP0 := Lib.hid (SPh.out rfl)
    clear hOne SPh TW NT SB SI DG
    go_enter Tryd.func21, Tryd.ntmps21
    go_wp2_with fail
    rw [← W0.out]
    refine (SM.out _).mono ?_
    rintro e wq ⟨rfl, rfl⟩
    clear SM
    go_upto_block 0 with fail
    go_cut [7] from 14 to 37 (fun i wx => WordEnd s a w0 i wx)
    case first =>
      go_wp2_with fail
      go_loop [7] (fun i => ∃ k : Nat, i = .int .i64 (a + k : Nat) ∧ a + k ≤ s.size ∧ Hid (∀ j, j < k → ∀ h : a + j < s.size, wordB (s[a + j].toNat : Int) = true)) (fun i => s.size - (intOf i).toNat)
      case atStart => exact ⟨0, rfl, by omega, Lib.hid (fun j hj => absurd hj (Nat.not_lt_zero j))⟩
      case round =>
        obtain ⟨k, rfl, hk, hall⟩ := hrel
        have BE : Hid (spanN wordB (bl (rst s a)) = k → WordEnd s a w0 (.int .i64 (a + k : Nat)) w0) := Lib.hid (fun h => ⟨rfl, k, rfl, hk, h⟩)
        by_cases hks : a + k < s.size
        · have E0 := Lib.hid (fun h => span_at_stop (p := wordB) hks hall.out h)
          have E1 := Lib.hid (fun h => all_next (p := wordB) hks hall.out h)
          have hWB : ∀ c : Int, wordB c = (lettB c || digB c || decide (c = 95)) := fun _ => rfl
          rw [hWB] at E0 E1
          clear hWB
          generalize hz : a + k = z at *
          have HZ := Lib.hid hz
          clear hz
          generalize hm : (s[z].toNat : Int) = m at *
          have SMc := Lib.hid (small_any m)
          have DGc := Lib.hid (rdigit_any m)
          generalize lettB m = bL at *
          generalize digB m = bD at *
          cases bL
          · cases bD
            · by_cases h95 : m = 95
              · have E := Lib.hid (E1.out (by rw [decide_eq_true h95]; rfl))
                have d95 : (m == 95) = true := by simpa using h95
                clear E0 E1 BE h95
                go_wp2_with fail
                refine (SMc.out _).mono ?_
                rintro e wq ⟨rfl, rfl⟩
                go_wp2_with fail
                refine (DGc.out _).mono ?_
                rintro e wq ⟨rfl, rfl⟩
                go_wp2_with fail
                go_round
                case rel => exact ⟨k + 1, by rw [← HZ.out]; go_num, by have := HZ.out; omega, E⟩
                case measure => simp [intOf]; omega
              · have SP := Lib.hid (BE.out (E0.out (by rw [decide_eq_false h95]; rfl)))
                have d95 : (m == 95) = false := by simpa using h95
                clear E0 E1 BE h95
                go_wp2_with fail
                refine (SMc.out _).mono ?_
                rintro e wq ⟨rfl, rfl⟩
                go_wp2_with fail
                refine (DGc.out _).mono ?_
                rintro e wq ⟨rfl, rfl⟩
                go_wp2_with fail
                go_meet
                exact SP.out
            · have E := Lib.hid (E1.out (by simp))
              clear E0 E1 BE
              go_wp2_with fail
              refine (SMc.out _).mono ?_
              rintro e wq ⟨rfl, rfl⟩
              go_wp2_with fail
              refine (DGc.out _).mono ?_
              rintro e wq ⟨rfl, rfl⟩
              go_wp2_with fail
              go_round
              case rel => exact ⟨k + 1, by rw [← HZ.out]; go_num, by have := HZ.out; omega, E⟩
              case measure => simp [intOf]; omega
          · have E := Lib.hid (E1.out (by simp))
            clear E0 E1 BE
            go_wp2_with fail
            refine (SMc.out _).mono ?_
            rintro e wq ⟨rfl, rfl⟩
            go_wp2_with fail
            go_round
            case rel => exact ⟨k + 1, by rw [← HZ.out]; go_num, by have := HZ.out; omega, E⟩
            case measure => simp [intOf]; omega
        · have SP := Lib.hid (BE.out (span_at_all (p := wordB) (by omega) hall.out))
          clear hall BE
          go_wp2_with fail
          go_meet
          exact SP.out
    case rest =>
      obtain ⟨rfl, k, rfl, hk, hsp⟩ := hcut
      have hk0 : spanN wordB (bl (rst s a)) ≠ 0 := SP0.out
      have hza : a ≤ a + k := by omega
      generalize hz : a + k = z at *
      have HK := Lib.hid (And.intro hk0 (And.intro hsp (And.intro hz hk)))
      clear hk0 hsp hz SP0
      obtain ⟨w5, hw5, N5, B5⟩ : ∃ w5, w5 = ((((w0.setCell ⟨Y, 0, none⟩ (.int .i64 1)).setCell ⟨Y, 1, none⟩ (.int .i64 a)).setCell ⟨Y, 2, none⟩ (.string (s.extract a z))).setCell ⟨Y, 3, none⟩ (.int .i64 0)).setCell ⟨Y, 4, none⟩ (.string ⟨#[]⟩) ∧ Blk w5 Y 39 #[.int .i64 1, .int .i64 a, .string (s.extract a z), .int .i64 0, .string ⟨#[]⟩] ∧ Below Y w w5 :=
        ⟨_, rfl, ((((N0h.out.set 0 _).set 1 _).set 2 _).set 3 _).set 4 _, ((((B0h.out.setCell (p := ⟨Y, 0, none⟩) (Nat.le_refl _) _).setCell (p := ⟨Y, 1, none⟩) (Nat.le_refl _) _).setCell (p := ⟨Y, 2, none⟩) (Nat.le_refl _) _).setCell (p := ⟨Y, 3, none⟩) (Nat.le_refl _) _).setCell (p := ⟨Y, 4, none⟩) (Nat.le_refl _) _⟩
      have W5 := Lib.hid hw5
      have N5h := Lib.hid N5
      have B5h := Lib.hid B5
      clear hw5 N5 B5
      go_upto_region 6 with fail
      have z0 := N0h.out.cell 0
      have f0 := N0h.out.free 0
      have z1 := N0h.out.cell 1
      have f1 := N0h.out.free 1
      have z2 := N0h.out.cell 2
      have f2 := N0h.out.free 2
      have z3 := N0h.out.cell 3
      have f3 := N0h.out.free 3
      have z4 := N0h.out.cell 4
      have f4 := N0h.out.free 4
      go_wp2_with fail
      rw [← W5.out]
      have y0 := N5h.out.cell 0
      have y1 := N5h.out.cell 1
      have y2 := N5h.out.cell 2
      have y3 := N5h.out.cell 3
      have y4 := N5h.out.cell 4
      refine bodyPost_ret (by simp [results, Tryd.results21, go_sem, y0, y1, y2, y3, y4]; try rfl) rfl ?_
      rw [RES.out]
      refine ond_ok HK.out.1 ⟨rfl, rfl, ?_, rfl, rfl⟩ (by rw [hy]; exact B5h.out)
      show _ = (rst s a).extract 0 (spanN wordB (bl (rst s a)))
      rw [HK.out.2.1, rst_sub s a k (by have := HK.out.2.2.2; have := HK.out.2.2.1; omega), HK.out.2.2.1]
end Go.Proofs.YtffneogphgodnaaDoor
