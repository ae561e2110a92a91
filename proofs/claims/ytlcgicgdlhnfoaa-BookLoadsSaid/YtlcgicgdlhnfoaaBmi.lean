/-
  A book of the call's own; the page's example.
-/
import Derived.Test.YtlcgicgdlhnfoaaBrd
namespace Go.Proofs.Ytlcgicgdlhnfoaa
open Go.RowKit
theorem bok_pt {base : Int} {LL : List (List Int)} (h : BOk base LL) (xs : List Int) : BOk (ptS base LL xs).1 (ptS base LL xs).2 := by
  have h0 := h.b0
  have h1 := h.b1
  have h2 := h.n
  unfold ptS
  by_cases hE : ptE base LL xs = 0
  · have hlt : base + LL.length < 549755813888 := by
      unfold ptE at hE
      by_cases hm : mayB xs = true
      · rw [if_pos hm] at hE
        by_cases hc : 549755813888 ≤ base + LL.length
        · rw [if_pos hc] at hE; exact absurd hE (by decide)
        · omega
      · rw [if_neg hm] at hE; exact absurd hE (by decide)
    rw [if_pos hE]
    by_cases h64 : LL.length = 64
    · rw [if_pos h64]
      refine ⟨by simp only; omega, ?_, ?_⟩
      · simp only [List.length_append, List.length_drop, List.length_cons, List.length_nil]; omega
      · simp only [List.length_append, List.length_drop, List.length_cons, List.length_nil]; omega
    · rw [if_neg h64]
      refine ⟨h0, ?_, ?_⟩
      · simp only [List.length_append, List.length_cons, List.length_nil]; omega
      · simp only [List.length_append, List.length_cons, List.length_nil]; omega
  · rw [if_neg hE]; exact h
theorem bok_fg {base : Int} {LL : List (List Int)} (h : BOk base LL) (b : Int) : BOk (fgS base LL b).1 (fgS base LL b).2 := by
  have h0 := h.b0
  have h1 := h.b1
  have h2 := h.n
  unfold fgS
  by_cases hc : b < 0 ∨ base + LL.length < b ∨ b ≤ base
  · rw [if_pos hc]; exact h
  · rw [if_neg hc]
    refine ⟨by simp only; omega, ?_, ?_⟩
    · simp only [List.length_drop]; omega
    · simp only [List.length_drop]; omega
/-- each match may be -/
def Shr (LL : List (List Int)) : Prop := ∀ xs ∈ LL, mayB xs = true
theorem upB_all : ∀ {l : List Int} {z : Int}, upB z l = true → ∀ x ∈ l, z < x ∧ x ≤ 549755813888
  | [], _, _, x, hx => by simp at hx
  | y :: r, z, h, x, hx => by
    unfold upB at h
    simp only [Bool.and_eq_true, Bool.not_eq_true', Bool.or_eq_false_iff, decide_eq_false_iff_not] at h
    obtain ⟨⟨h1, h2⟩, h3⟩ := h
    rcases List.mem_cons.1 hx with rfl | hx
    · omega
    · have := upB_all h3 x hx; omega
theorem mayB_len {xs : List Int} (h : mayB xs = true) : 1 ≤ xs.length ∧ xs.length ≤ 16 := by
  unfold mayB at h
  simp only [Bool.and_eq_true, Bool.not_eq_true', Bool.or_eq_false_iff, decide_eq_false_iff_not] at h
  omega
theorem mayB_all {xs : List Int} (h : mayB xs = true) : ∀ x ∈ xs, 0 ≤ x ∧ x ≤ 549755813888 := by
  unfold mayB at h
  simp only [Bool.and_eq_true] at h
  intro x hx
  have := upB_all h.2 x hx
  omega
theorem Shr.short {LL : List (List Int)} (h : Shr LL) : ∀ xs ∈ LL, xs.length ≤ 1000 := fun xs hx => by have := mayB_len (h xs hx); omega
theorem shr_pt {base : Int} {LL : List (List Int)} (h : Shr LL) (xs : List Int) : Shr (ptS base LL xs).2 := by
  unfold ptS
  by_cases hE : ptE base LL xs = 0
  · have hm : mayB xs = true := by
      unfold ptE at hE
      by_cases hm : mayB xs = true
      · exact hm
      · rw [if_neg hm] at hE; exact absurd hE (by decide)
    have hd : ∀ ys ∈ LL.drop 1 ++ [xs], mayB ys = true := fun ys hy => by
      rcases List.mem_append.1 hy with hy | hy
      · exact h ys (List.mem_of_mem_drop hy)
      · rw [List.mem_singleton.1 hy]; exact hm
    have ha : ∀ ys ∈ LL ++ [xs], mayB ys = true := fun ys hy => by
      rcases List.mem_append.1 hy with hy | hy
      · exact h ys hy
      · rw [List.mem_singleton.1 hy]; exact hm
    rw [if_pos hE]
    split
    · exact hd
    · exact ha
  · rw [if_neg hE]; exact h
theorem shr_fg {base : Int} {LL : List (List Int)} (h : Shr LL) (b : Int) : Shr (fgS base LL b).2 := by
  unfold fgS
  split
  · exact h
  · exact fun ys hy => h ys (List.mem_of_mem_drop hy)
/-- a book of the call's own, behind B -/
def Mine (w0 : World) (B t : Nat) (base : Int) (LL : List (List Int)) (w : World) : Prop := ∃ Bk, BookAt w Bk t base LL ∧ BOk base LL ∧ Shr LL ∧ (∀ q, Bk q → B ≤ q) ∧ Below B w0 w ∧ B ≤ w.heap.size
section
variable {w0 w w' : World} {B t : Nat} {base : Int} {LL : List (List Int)}
theorem Mine.next (h : Mine w0 B t base LL w) (b : Below w.heap.size w w') : Mine w0 B t base LL w' := by
  obtain ⟨Bk, hb, ok, sh, hB, hw, hs⟩ := h
  exact ⟨Bk, hb.next b, ok, sh, hB, hw.trans (b.mono hs), Nat.le_trans hs b.size⟩
theorem Mine.bel (h : Mine w0 B t base LL w) : Below B w0 w := by
  obtain ⟨Bk, hb, ok, sh, hB, hw, hs⟩ := h
  exact hw
theorem Mine.ok (h : Mine w0 B t base LL w) : BOk base LL := by
  obtain ⟨Bk, hb, ok, sh, hB, hw, hs⟩ := h
  exact ok
theorem mine_new (hb : Below B w0 w) (hB : B ≤ w.heap.size) : Calls Try.prog 8 #[] w fun e w' => e = .returned (.pointer (some ⟨w.heap.size, 0, none⟩)) ∧ Mine w0 B w.heap.size 0 [] w' := by
  refine (new_any w).mono ?_
  rintro e w' ⟨rfl, T, b⟩
  exact ⟨rfl, _, T, ⟨by decide, by decide, by decide⟩, fun _ h => by simp at h, fun q hq => by rw [hq]; exact hB, hb.trans (b.mono hB), Nat.le_trans hB b.size⟩
theorem Mine.put (h : Mine w0 B t base LL w) {a : Option Addr} {xs : List Int} (c : Nat) (hn : Nums w a xs) (hl : xs.length ≤ 1000) :
    Calls Try.prog 11 #[.pointer (some ⟨t, 0, none⟩), .agg #[.slice a xs.length c]] w fun e w' => e = .returned (.int .i64 (ptE base LL xs)) ∧ Mine w0 B t (ptS base LL xs).1 (ptS base LL xs).2 w' := by
  obtain ⟨Bk, hb, ok, sh, hB, hw, hs⟩ := h
  refine (put_any c hb ok hn hl).mono ?_
  rintro e w' ⟨rfl, Bk', hb', f, m1, m2⟩
  have hm : ∀ q, Bk' q → B ≤ q := fun q hq => by
    rcases m2 q hq with h | h
    · exact hB q h
    · omega
  exact ⟨rfl, Bk', hb', bok_pt ok xs, shr_pt sh xs, hm, hw.trans (f.below hB hs), Nat.le_trans hs f.size⟩
theorem Mine.forget (h : Mine w0 B t base LL w) (b : Int) : Calls Try.prog 17 #[.pointer (some ⟨t, 0, none⟩), .int .i64 b] w fun e w' => e = .returned (.int .i64 (fgE base LL b)) ∧ Mine w0 B t (fgS base LL b).1 (fgS base LL b).2 w' := by
  obtain ⟨Bk, hb, ok, sh, hB, hw, hs⟩ := h
  refine (forget_any b hb ok).mono ?_
  rintro e w' ⟨rfl, hb', f⟩
  exact ⟨rfl, Bk, hb', bok_fg ok b, shr_fg sh b, hB, hw.trans (f.below hB hs), Nat.le_trans hs f.size⟩
theorem Mine.bs (h : Mine w0 B t base LL w) : Calls Try.prog 22 #[.pointer (some ⟨t, 0, none⟩)] w fun e w' => e = .returned (.int .i64 base) ∧ w = w' := by
  obtain ⟨Bk, hb, ok, sh, hB, hw, hs⟩ := h
  exact base_any hb
theorem Mine.end_ (h : Mine w0 B t base LL w) : Calls Try.prog 23 #[.pointer (some ⟨t, 0, none⟩)] w fun e w' => e = .returned (.int .i64 (base + LL.length)) ∧ Mine w0 B t base LL w' := by
  have h0 := h
  obtain ⟨Bk, hb, ok, sh, hB, hw, hs⟩ := h
  refine (end_any hb ok.b0 (by have := ok.b1; omega) (by have := ok.n; omega)).mono ?_
  rintro e w' ⟨rfl, b⟩
  exact ⟨rfl, h0.next b⟩
theorem Mine.read (h : Mine w0 B t base LL w) (x y : Int) (hx : x ≤ 9223372036854775807) : Calls Try.prog 13 #[.pointer (some ⟨t, 0, none⟩), .int .i64 x, .int .i64 y] w fun e w' => Rdd w base LL x y e w' ∧ Mine w0 B t base LL w' := by
  have h0 := h
  obtain ⟨Bk, hb, ok, sh, hB, hw, hs⟩ := h
  have fin : ∀ e w', Rdd w base LL x y e w' → Rdd w base LL x y e w' ∧ Mine w0 B t base LL w' := fun e w' hr => ⟨hr, h0.next hr.1⟩
  by_cases h1 : x < 0 ∨ y < 0
  · exact (read_bad base LL h1).mono fin
  · by_cases h2 : x < base
    · exact (read_gone hb (by omega) (by omega) h2).mono fin
    · exact (read_ok hb ok sh.short (by omega) (by omega) (by omega) hx).mono fin
end
theorem nums_one (w : World) (i : Int) : Nums (w.alloc (.cells #[.int .i64 i] 3)) (some ⟨w.heap.size, 0, none⟩) [i] := fun j hj => by
  have hj0 : j = 0 := by simpa using hj
  subst hj0
  exact ⟨w.heap.size, 0, rfl, by simp, (Blk.new w 3 #[.int .i64 i]).cell 0⟩
theorem OwnM.at_ {w : World} {B : Nat} {v : Value} {ms : List Mv} (h : OwnM w B v ms) {k : Nat} (hk : k < ms.length) : ∃ g c g2 c2, v = .slice (some ⟨g, 0, none⟩) ms.length c ∧ g < w.heap.size ∧ w.cell? ⟨g, k, none⟩ = some (.slice g2 ms[k].2.length c2) ∧ Nums w g2 ms[k].2 := by
  obtain ⟨a2, c2, e2, n2⟩ := (h.2 ms[k] (List.getElem_mem hk)).nums
  have h0 := h.1
  rcases h.1.2 with ⟨rfl, e⟩ | ⟨g, cap, cur, rfl, hb, hg, _⟩
  · omega
  · refine ⟨g, cap, a2, c2, rfl, (Array.getElem?_eq_some_iff.1 hg).1, ?_, n2⟩
    rw [h0.cellAt _ (by omega)]
    rw [List.getElem?_map, List.getElem?_eq_getElem hk, ← e2]
    rfl
theorem OwnM.form {w : World} {B : Nat} {v : Value} {ms : List Mv} (h : OwnM w B v ms) : ∃ a c, v = .slice a ms.length c := own_form h.1
theorem ms_one {ms : List Mv} {xs : List Int} (h : ms.map (·.2) = [xs]) : ∃ u, ms = [(u, xs)] := by
  match ms, h with
  | [(u, ys)], h => exact ⟨u, by simp at h; rw [h]⟩
theorem rdd_ok {w w' : World} {base : Int} {LL : List (List Int)} {x y : Int} {e : Ending} (h : Rdd w base LL x y e w') (hx : 0 ≤ x) (hy : 0 ≤ y) (hb : base ≤ x) :
    ∃ v ms, e = .returned (.tuple #[v, .int .i64 (x + (sub base LL x y).length), .int .i64 0]) ∧ ms.map (fun z : Mv => z.2) = sub base LL x y ∧ OwnM w' w.heap.size v ms ∧ Below w.heap.size w w' := by
  rcases h.2 with ⟨h1, _⟩ | ⟨_, h1, _⟩ | ⟨_, _, v, ms, r1, r2, r3⟩
  · omega
  · omega
  · exact ⟨v, ms, r1, r2, r3, h.1⟩
theorem rdd_gone {w w' : World} {base : Int} {LL : List (List Int)} {x y : Int} {e : Ending} (h : Rdd w base LL x y e w') (hx : 0 ≤ x) (hy : 0 ≤ y) (hb : x < base) :
    e = .returned (.tuple #[.slice none 0 0, .int .i64 base, .int .i64 180]) ∧ Below w.heap.size w w' := by
  rcases h.2 with ⟨h1, _⟩ | ⟨_, h1, r⟩ | ⟨_, h1, _⟩
  · omega
  · exact ⟨r, h.1⟩
  · omega
theorem rdd_bad {w w' : World} {base : Int} {LL : List (List Int)} {x y : Int} {e : Ending} (h : Rdd w base LL x y e w') (hy : x < 0 ∨ y < 0) :
    e = .returned (.tuple #[.slice none 0 0, .int .i64 0, .int .i64 1]) ∧ Below w.heap.size w w' := by
  rcases h.2 with ⟨_, r⟩ | ⟨h1, _⟩ | ⟨h1, _⟩
  · exact ⟨r, h.1⟩
  · omega
  · omega
/-- matches of one pick, that rise -/
def rowI (base : Int) (n : Nat) : List (List Int) := (List.range n).map (fun (i : Nat) => [base + (i : Int)])
theorem rowI_len (base : Int) (n : Nat) : (rowI base n).length = n := by simp [rowI]
theorem rowI_get (base : Int) (n i : Nat) (h : i < (rowI base n).length) : (rowI base n)[i] = [base + (i : Int)] := by simp [rowI]
theorem rowI_snoc (base : Int) (n : Nat) : rowI base n ++ [[base + (n : Int)]] = rowI base (n + 1) := by simp [rowI, List.range_succ]
theorem rowI_drop (base : Int) (n k : Nat) : (rowI base n).drop k = rowI (base + (k : Int)) (n - k) := by
  apply List.ext_getElem
  · simp [rowI]
  · intro i h1 h2
    rw [List.getElem_drop, rowI_get, rowI_get]
    congr 1
    omega
theorem rowI_take (base : Int) (n k : Nat) : (rowI base n).take k = rowI base (min k n) := by
  apply List.ext_getElem
  · simp [rowI]
  · intro i h1 h2
    rw [List.getElem_take, rowI_get, rowI_get]
theorem may_one {c : Int} (h0 : 0 ≤ c) (h1 : c ≤ 549755813888) : mayB [c] = true := by
  unfold mayB upB upB
  simp only [List.length_cons, List.length_nil]
  rw [decide_eq_false (show ¬ (0 + 1 < 1) by omega), decide_eq_false (show ¬ (16 < 0 + 1) by omega), decide_eq_false (show ¬ c ≤ -1 by omega), decide_eq_false (show ¬ 549755813888 < c by omega)]
  rfl
theorem pt_row {base : Int} {n : Nat} (h0 : 0 ≤ base) (hn : n ≤ 64) (hm : base + (n : Int) < 549755813888) : ptE base (rowI base n) [base + (n : Int)] = 0 ∧
    ptS base (rowI base n) [base + (n : Int)] = if n = 64 then (base + 1, rowI (base + 1) 64) else (base, rowI base (n + 1)) := by
  have hE : ptE base (rowI base n) [base + (n : Int)] = 0 := by
    unfold ptE
    rw [if_pos (may_one (by omega) (by omega)), rowI_len, if_neg (by omega)]
  refine ⟨hE, ?_⟩
  unfold ptS
  rw [if_pos hE, rowI_len]
  by_cases h64 : n = 64
  · subst h64
    rw [if_pos rfl, if_pos rfl, rowI_drop]
    have := rowI_snoc (base + 1) 63
    rw [show base + 1 + ((63 : Nat) : Int) = base + ((64 : Nat) : Int) by omega] at this
    exact congrArg (Prod.mk (base + 1)) this
  · rw [if_neg h64, if_neg h64, rowI_snoc]
theorem BN1 (W : World) (o : Obj) : Below W.heap.size W (W.alloc o) := (Below.refl W.heap.size W).alloc (Nat.le_refl _) o
set_option maxHeartbeats 4000000 in
set_option maxRecDepth 100000 in
theorem awake_any (w : World) : Calls Try.prog 9 #[] w fun e w' => e = .returned (.bool true) ∧ Below w.heap.size w w' := by
  have r3 : rowI 0 3 = [[0], [1], [2]] := by decide
  have e3 : fgE 0 [[0], [1], [2]] 2 = 0 ∧ fgS 0 [[0], [1], [2]] 2 = (2, [[2]]) := by decide
  have e4 : sub 2 [[2]] 2 9 = [[2]] := by decide
  have N := Lib.hid (mine_new (Below.refl w.heap.size w) (Nat.le_refl _))
  have A0 : Hid (∀ W (k : Nat), k < 3 → Mine w w.heap.size w.heap.size 0 (rowI 0 k) W → Calls Try.prog 11 #[.pointer (some ⟨w.heap.size, 0, none⟩), .agg #[.slice (some ⟨W.heap.size, 0, none⟩) 1 1]] (W.alloc (.cells #[.int .i64 k] 3)) fun e w' => e = .returned (.int .i64 0) ∧ Mine w w.heap.size w.heap.size 0 (rowI 0 (k + 1)) w') := Lib.hid fun W k hk h => by
    have h2 := (h.next (BN1 W (.cells #[.int .i64 k] 3))).put 1 (nums_one W k) (by simp)
    have e := pt_row (base := 0) (n := k) (by decide) (by omega) (by omega)
    rw [Int.zero_add] at e
    rw [e.1, e.2, if_neg (by omega)] at h2
    exact h2
  have A3 := Lib.hid (fun W (h : Mine w w.heap.size w.heap.size 0 [[0], [1], [2]] W) => h.forget 2)
  have A4 : Hid (∀ W, Mine w w.heap.size w.heap.size 2 [[2]] W → Calls Try.prog 13 #[.pointer (some ⟨w.heap.size, 0, none⟩), .int .i64 2, .int .i64 9] W fun e w' => ∃ g c g2 c2, e = .returned (.tuple #[.slice (some ⟨g, 0, none⟩) 1 c, .int .i64 3, .int .i64 0]) ∧ g < w'.heap.size ∧ w'.cell? ⟨g, 0, none⟩ = some (.slice (some g2) 1 c2) ∧ g2.block < w'.heap.size ∧ w'.cell? g2 = some (.int .i64 2) ∧ Mine w w.heap.size w.heap.size 2 [[2]] w') := Lib.hid fun W h => by
    refine (h.read 2 9 (by decide)).mono ?_
    rintro e w' ⟨hr, hm⟩
    obtain ⟨v, ms, rfl, hms, ho, -⟩ := rdd_ok hr (by decide) (by decide) (by decide)
    rw [e4] at hms ⊢
    obtain ⟨u, rfl⟩ := ms_one hms
    obtain ⟨g, c, g2, c2, rfl, hg, ck, nn⟩ := ho.at_ (k := 0) (by simp)
    obtain ⟨gg, o, e5, hgg, ck2⟩ := nn 0 (by simp)
    subst e5
    exact ⟨g, c, _, c2, rfl, hg, ck, hgg, ck2, hm⟩
  have A5 : Hid (∀ W, Mine w w.heap.size w.heap.size 2 [[2]] W → Calls Try.prog 13 #[.pointer (some ⟨w.heap.size, 0, none⟩), .int .i64 0, .int .i64 9] W fun e w' => e = .returned (.tuple #[.slice none 0 0, .int .i64 2, .int .i64 180]) ∧ Below W.heap.size W w' ∧ Mine w w.heap.size w.heap.size 2 [[2]] w') := Lib.hid fun W h => by
    refine (h.read 0 9 (by decide)).mono ?_
    rintro e w' ⟨hr, hm⟩
    obtain ⟨rfl, hb⟩ := rdd_gone hr (by decide) (by decide) (by decide)
    exact ⟨rfl, hb, hm⟩
  have A6 := Lib.hid (fun W (h : Mine w w.heap.size w.heap.size 2 [[2]] W) => h.bs)
  have A7 : Hid (∀ W, Mine w w.heap.size w.heap.size 2 [[2]] W → Calls Try.prog 23 #[.pointer (some ⟨w.heap.size, 0, none⟩)] W fun e w' => e = .returned (.int .i64 3) ∧ Below W.heap.size W w' ∧ Mine w w.heap.size w.heap.size 2 [[2]] w') := Lib.hid fun W h => by
    obtain ⟨Bk, hb, ok, sh, hB, hw, hs⟩ := h
    refine (end_any hb ok.b0 (by decide) (by decide)).mono ?_
    rintro e w' ⟨rfl, b⟩
    exact ⟨rfl, b, Mine.next ⟨Bk, hb, ok, sh, hB, hw, hs⟩ b⟩
  rw [e3.1, e3.2] at A3
  have R0 : Hid (∀ W, Mine w w.heap.size w.heap.size 0 [] W → Mine w w.heap.size w.heap.size 0 (rowI 0 0) W) := Lib.hid (fun W h => h)
  have R3 : Hid (∀ W, Mine w w.heap.size w.heap.size 0 (rowI 0 3) W → Mine w w.heap.size w.heap.size 0 [[0], [1], [2]] W) := Lib.hid (fun W h => by rw [r3] at h; exact h)
  clear e3 e4 r3
  have FIN := Lib.hid (fun W (h : Mine w w.heap.size w.heap.size 2 [[2]] W) => h.bel)
  generalize w.heap.size = t at *
  generalize hM : Mine w = M at *
  clear hM
  go_enter Try.func9, Try.ntmps9
  go_wp2_with fail
  refine N.out.mono ?_
  rintro e w1 ⟨rfl, m1⟩
  have M1 := Lib.hid (R0.out _ m1)
  clear m1 N R0
  go_wp2_with fail
  go_loopw [2] (fun i wr => ∃ k : Nat, i = .int .i64 k ∧ k ≤ 3 ∧ Hid (M t t 0 (rowI 0 k) wr)) (fun i _ => 3 - (intOf i).toNat)
  case atStart => exact ⟨0, rfl, by decide, M1⟩
  case round =>
    obtain ⟨k, rfl, hk, hm⟩ := hrel
    by_cases hk3 : k < 3
    · have hkI : (k : Int) < 3 := by omega
      have hkB := decide_eq_true hkI
      have HA := Lib.hid (A0.out wr k hk3 hm.out)
      clear A0 M1 hm
      go_wp2_with fail
      refine HA.out.mono ?_
      rintro e w2 ⟨rfl, m2⟩
      have M2 := Lib.hid m2
      clear m2 HA
      go_wp2_with fail
      go_roundw
      case rel => exact ⟨k + 1, by go_num, by omega, M2⟩
      case measure => simp [intOf]; omega
    · obtain rfl : k = 3 := by omega
      have M3 := Lib.hid (R3.out _ hm.out)
      clear hm R3 A0 M1
      go_wp2_with fail
      refine (A3.out _ M3.out).mono ?_
      rintro e w4 ⟨rfl, m4⟩
      have M4 := Lib.hid m4
      clear m4 M3 A3
      go_wp2_with fail
      refine (A4.out _ M4.out).mono ?_
      rintro e w5 ⟨g, c, ⟨g2, o2, l2⟩, c2, rfl, hg, ck, hg2, ck2, m5⟩
      have M5 := Lib.hid m5
      clear m5 M4 A4
      go_wp2_with fail
      refine (A5.out _ M5.out).mono ?_
      rintro e w6 ⟨rfl, b6, m6⟩
      have M6 := Lib.hid m6
      have CK6 := Lib.hid ((b6.cell (p := ⟨g, 0, none⟩) hg).trans ck)
      have CL6 := Lib.hid ((b6.cell (p := ⟨g2, o2, l2⟩) hg2).trans ck2)
      have G6 := Lib.hid (show g < w6.heap.size from Nat.lt_of_lt_of_le hg b6.size)
      have H6 := Lib.hid (show g2 < w6.heap.size from Nat.lt_of_lt_of_le hg2 b6.size)
      clear m6 M5 A5 hg ck hg2 ck2 b6
      go_wp2_with fail
      refine (A6.out _ M6.out).mono ?_
      rintro e w7 ⟨rfl, rfl⟩
      go_wp2_with fail
      refine (A7.out _ M6.out).mono ?_
      rintro e w8 ⟨rfl, b8, m8⟩
      have M8 := Lib.hid m8
      have ck8 := (b8.cell (p := ⟨g, 0, none⟩) G6.out).trans CK6.out
      have cl8 := (b8.cell (p := ⟨g2, o2, l2⟩) H6.out).trans CL6.out
      clear m8 M6 A6 A7 CK6 CL6 G6 H6 b8
      go_wp2_with fail
      go_ret
      exact ⟨rfl, FIN.out _ M8.out⟩
end Go.Proofs.Ytlcgicgdlhnfoaa
