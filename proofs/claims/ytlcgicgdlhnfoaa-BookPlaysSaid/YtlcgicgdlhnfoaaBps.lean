/-
  BookPlays: the book and the document's book side by side.
-/
import Derived.Test.YtlcgicgdlhnfoaaBrq
import Derived.Test.YtlcgicgdlhnfoaaBrr
import Derived.Test.YtlcgicgdlhnfoaaBsm
import Derived.Test.YtlcgicgdlhnfoaaBlb
import Derived.Test.YtlcgicgdlhnfoaaBop
namespace Go.Proofs.Ytlcgicgdlhnfoaa
open Go.RowKit
/-- both books at one world: the program's at t, the document's in the box X -/
def PS (w : World) (X t : Nat) (base : Int) (LL : List (List Int)) (a : Option Addr) (c : Nat) (wr : World) : Prop :=
  ∃ Bk lo hi, BookAt wr Bk t base LL ∧ BOk base LL ∧ Shr LL ∧ Blk wr X 27 #[.int .i64 base, .slice a LL.length c] ∧ Doc wr w.heap.size lo hi a LL ∧ (LL.length ≤ c ∧ (c : Int) ≤ 9223372036854775807) ∧
    (∀ q, Bk q → w.heap.size ≤ q ∧ q ≠ X ∧ ¬ (lo ≤ q ∧ q < hi)) ∧ w.heap.size ≤ X ∧ ¬ (lo ≤ X ∧ X < hi) ∧ Below w.heap.size w wr
section
variable {w wr w' : World} {X t : Nat} {base : Int} {LL : List (List Int)} {a : Option Addr} {c : Nat}
theorem PS.next (h : PS w X t base LL a c wr) (b : Below wr.heap.size wr w') : PS w X t base LL a c w' := by
  obtain ⟨Bk, lo, hi, h1, h2, h3, h4, h5, h6, h7, h8, h9, h10⟩ := h
  exact ⟨Bk, lo, hi, h1.next b, h2, h3, h4.next b, h5.next b, h6, h7, h8, h9, h10.trans (b.mono h10.size)⟩
theorem PS.bel (h : PS w X t base LL a c wr) : Below w.heap.size w wr := by
  obtain ⟨Bk, lo, hi, h1, h2, h3, h4, h5, h6, h7, h8, h9, h10⟩ := h
  exact h10
theorem PS.xlt (h : PS w X t base LL a c wr) : X < wr.heap.size := by
  obtain ⟨Bk, lo, hi, h1, h2, h3, h4, h5, h6, h7, h8, h9, h10⟩ := h
  exact h4.lt
theorem PS.c0 (h : PS w X t base LL a c wr) : wr.cell? ⟨X, 0, none⟩ = some (.int .i64 base) := by
  obtain ⟨Bk, lo, hi, h1, h2, h3, h4, h5, h6, h7, h8, h9, h10⟩ := h
  exact h4.cell 0
theorem PS.c1 (h : PS w X t base LL a c wr) : wr.cell? ⟨X, 1, none⟩ = some (.slice a LL.length c) := by
  obtain ⟨Bk, lo, hi, h1, h2, h3, h4, h5, h6, h7, h8, h9, h10⟩ := h
  exact h4.cell 1
/-- the law's same, of both -/
theorem PS.same (h : PS w X t base LL a c wr) : Calls Try.prog 20 #[.pointer (some ⟨t, 0, none⟩), .agg #[.int .i64 base, .slice a LL.length c]] wr fun e w' => e = .returned (.bool true) ∧ PS w X t base LL a c w' := by
  have h0 := h
  obtain ⟨Bk, lo, hi, h1, h2, h3, h4, h5, h6, h7, h8, h9, h10⟩ := h
  refine (same20_yes c h1 h2 h3 h5.rws).mono ?_
  rintro e w' ⟨rfl, b⟩
  exact ⟨rfl, h0.next b⟩
/-- the document's book is at its new state, the program's still at the old one; the blocks from s1 to s2 are of neither -/
def PQ (w : World) (X t : Nat) (base : Int) (LL : List (List Int)) (base2 : Int) (LL2 : List (List Int)) (a : Option Addr) (c s1 s2 : Nat) (wr : World) : Prop :=
  ∃ Bk lo hi, BookAt wr Bk t base LL ∧ BOk base LL ∧ Shr LL ∧ Blk wr X 27 #[.int .i64 base2, .slice a LL2.length c] ∧ Doc wr w.heap.size lo hi a LL2 ∧ (LL2.length ≤ c ∧ (c : Int) ≤ 9223372036854775807) ∧
    (∀ q, Bk q → w.heap.size ≤ q ∧ q ≠ X ∧ ¬ (lo ≤ q ∧ q < hi) ∧ ¬ (s1 ≤ q ∧ q < s2)) ∧ w.heap.size ≤ X ∧ ¬ (lo ≤ X ∧ X < hi) ∧ Below w.heap.size w wr ∧ X < s1 ∧ (∀ q, s1 ≤ q → q < s2 → ¬ (lo ≤ q ∧ q < hi)) ∧ w.heap.size ≤ s1 ∧ s2 ≤ wr.heap.size
/-- what a call of the document's leaves, to be stored -/
def PC (w : World) (X t : Nat) (base : Int) (LL : List (List Int)) (base2 : Int) (LL2 : List (List Int)) (err : Int) (a : Option Addr) (c s1 s2 : Nat) (e : Ending) (w3 : World) : Prop :=
  ∃ a' c', e = .returned (.tuple #[.agg #[.int .i64 base2, .slice a' LL2.length c'], .int .i64 err]) ∧ Blk w3 X 27 #[.int .i64 base, .slice a LL.length c] ∧ ∀ w4, w4 = (w3.setCell ⟨X, 0, none⟩ (.int .i64 base2)).setCell ⟨X, 1, none⟩ (.slice a' LL2.length c') → PQ w X t base LL base2 LL2 a' c' s1 s2 w4 ∧ Fr w3 w4 (fun q => q = X)
theorem pc_of {w2 w3 : World} {lo hi : Nat} {Bk : Nat → Prop} {base2 err : Int} {LL2 : List (List Int)} {e : Ending} (h1 : BookAt wr Bk t base LL) (h2 : BOk base LL) (h3 : Shr LL) (h4 : Blk wr X 27 #[.int .i64 base, .slice a LL.length c]) (h5 : Doc wr w.heap.size lo hi a LL)
    (h7 : ∀ q, Bk q → w.heap.size ≤ q ∧ q ≠ X ∧ ¬ (lo ≤ q ∧ q < hi)) (h8 : w.heap.size ≤ X) (h9 : ¬ (lo ≤ X ∧ X < hi)) (h10 : Below w.heap.size w wr) (b : Below wr.heap.size wr w2) (hr : Rptd w2 w.heap.size lo hi base2 LL2 err e w3) : PC w X t base LL base2 LL2 err a c wr.heap.size w2.heap.size e w3 := by
  obtain ⟨a', c', lo', hi', rfl, d, b3, hl, hc⟩ := hr
  have b13 : Below wr.heap.size wr w3 := b.trans (b3.mono b.size)
  have hlt : ∀ q, Bk q → q < wr.heap.size := by
    obtain ⟨_, _, _, _, _, _, _, h⟩ := h1
    exact h
  have hX := h4.lt
  have hhi := h5.h
  refine ⟨a', c', rfl, h4.next b13, fun w4 hw4 => ?_⟩
  have F5 : Fr w3 w4 (fun q => q = X) := by rw [hw4]; exact ((Fr.refl w3 (fun q => q = X)).set X 0 (.int .i64 base2) (.inl rfl)).set X 1 (.slice a' LL2.length c') (.inl rfl)
  have k4 : Blk w4 X 27 #[.int .i64 base2, .slice a' LL2.length c'] := by rw [hw4]; exact ((h4.next b13).set 0 (.int .i64 base2)).set 1 (.slice a' LL2.length c')
  have hlo : (∀ q, lo' ≤ q → q < hi' → (lo ≤ q ∧ q < hi) ∨ w2.heap.size ≤ q) := fun q h h' => by rcases hl with ⟨rfl, rfl⟩ | ⟨h2, _⟩ <;> omega
  have hs12 := b.size
  refine ⟨⟨Bk, lo', hi', (h1.next b13).fr F5 (fun q hq e => (h7 q hq).2.1 e), h2, h3, k4, d.fr F5 (fun q h e => by omega) (fun q h h' e => by rcases hlo q h h' with h | h <;> omega), hc, fun q hq => ?_, h8, fun h => ?_, ?_, hX, fun q h h' hh => ?_, h10.size, Nat.le_trans b3.size F5.size⟩, F5⟩
  · have := h7 q hq
    have := hlt q hq
    refine ⟨by omega, by omega, fun h => ?_, by omega⟩
    rcases hlo q h.1 h.2 with h | h <;> omega
  · rcases hlo X h.1 h.2 with h | h <;> omega
  · exact (h10.trans (b13.mono h10.size)).trans (F5.below (fun q e => by omega) (Nat.le_trans h10.size b13.size))
  · rcases hlo q hh.1 hh.2 with h | h <;> omega
theorem PS.put0 {w2 : World} {q : Option Addr} {xs : List Int} (cq : Nat) (h : PS w X t base LL a c wr) (b : Below wr.heap.size wr w2) (hn : Nums w2 q xs) (hq : ∀ p, q = some p → xs.length = 0 ∨ p.block < w.heap.size) (hl : xs.length ≤ 1000) :
    Calls Try.prog 10 #[.agg #[.int .i64 base, .slice a LL.length c], .slice q xs.length cq] w2 fun e w3 => PC w X t base LL (ptS base LL xs).1 (ptS base LL xs).2 (ptE base LL xs) a c wr.heap.size w2.heap.size e w3 ∧ Below w2.heap.size w2 w3 := by
  obtain ⟨Bk, lo, hi, h1, h2, h3, h4, h5, h6, h7, h8, h9, h10⟩ := h
  refine (rput_any c cq (h5.next b) h2 hn hq (Nat.le_trans h10.size b.size) hl h6).mono fun e w' hr => ⟨pc_of h1 h2 h3 h4 h5 h7 h8 h9 h10 b hr, ?_⟩
  obtain ⟨_, _, _, _, _, _, b3, _⟩ := hr
  exact b3
theorem PS.fgt0 (x : Int) (h : PS w X t base LL a c wr) :
    Calls Try.prog 16 #[.agg #[.int .i64 base, .slice a LL.length c], .int .i64 x] wr fun e w3 => PC w X t base LL (fgS base LL x).1 (fgS base LL x).2 (fgE base LL x) a c wr.heap.size wr.heap.size e w3 ∧ Below wr.heap.size wr w3 := by
  obtain ⟨Bk, lo, hi, h1, h2, h3, h4, h5, h6, h7, h8, h9, h10⟩ := h
  refine (rforget_any c x h5 h2 h10.size h6).mono fun e w' hr => ⟨pc_of h1 h2 h3 h4 h5 h7 h8 h9 h10 (Below.refl _ _) hr, ?_⟩
  obtain ⟨_, _, _, _, _, _, b3, _⟩ := hr
  exact b3
theorem PQ.put {s1 s2 cp : Nat} {p : Option Addr} {xs : List Int} (h : PQ w X t base LL (ptS base LL xs).1 (ptS base LL xs).2 a c s1 s2 wr) (hn : Nums wr p xs) (hl : xs.length ≤ 1000) :
    Calls Try.prog 11 #[.pointer (some ⟨t, 0, none⟩), .agg #[.slice p xs.length cp]] wr fun e w5 => e = .returned (.int .i64 (ptE base LL xs)) ∧ Fr wr w5 (fun q => ¬ (s1 ≤ q ∧ q < s2)) ∧ ∀ w6, Fr w5 w6 (fun q => s1 ≤ q ∧ q < s2) → PS w X t (ptS base LL xs).1 (ptS base LL xs).2 a c w6 := by
  obtain ⟨Bk, lo, hi, h1, h2, h3, h4, h5, h6, h7, h8, h9, h10, h11, h12, h13, h14⟩ := h
  refine (put_any cp h1 h2 hn hl).mono ?_
  rintro e w5 ⟨rfl, Bk', hb', f5, m1, m2⟩
  refine ⟨rfl, f5.mono (fun q _ hq => (h7 q hq).2.2.2), fun w6 f6 => ?_⟩
  have hhi := h5.h
  have hX := h4.lt
  have hB' : ∀ q, Bk' q → w.heap.size ≤ q ∧ q ≠ X ∧ ¬ (lo ≤ q ∧ q < hi) ∧ ¬ (s1 ≤ q ∧ q < s2) := fun q hq => by
    rcases m2 q hq with h | h
    · exact h7 q h
    · have := h10.size; omega
  refine ⟨Bk', lo, hi, hb'.fr f6 (fun q hq hh => (hB' q hq).2.2.2 hh), bok_pt h2 xs, shr_pt h3 xs, (h4.fr f5 (fun hh => (h7 X hh).2.1 rfl)).fr f6 (fun hh => by omega), (h5.fr f5 (fun q h hh => by have := (h7 q hh).1; omega) (fun q h h' hh => (h7 q hh).2.2.1 ⟨h, h'⟩)).fr f6 (fun q h hh => by omega) (fun q h h' hh => h12 q hh.1 hh.2 ⟨h, h'⟩), h6, fun q hq => ⟨(hB' q hq).1, (hB' q hq).2.1, (hB' q hq).2.2.1⟩, h8, h9, ?_⟩
  exact (h10.trans (f5.below (fun q hq => (h7 q hq).1) h10.size)).trans (f6.below (fun q hq => by omega) (Nat.le_trans h10.size f5.size))
theorem PQ.fgt {s1 : Nat} (x : Int) (h : PQ w X t base LL (fgS base LL x).1 (fgS base LL x).2 a c s1 s1 wr) :
    Calls Try.prog 17 #[.pointer (some ⟨t, 0, none⟩), .int .i64 x] wr fun e w5 => e = .returned (.int .i64 (fgE base LL x)) ∧ PS w X t (fgS base LL x).1 (fgS base LL x).2 a c w5 := by
  obtain ⟨Bk, lo, hi, h1, h2, h3, h4, h5, h6, h7, h8, h9, h10, h11, h12, h13, h14⟩ := h
  refine (forget_any x h1 h2).mono ?_
  rintro e w5 ⟨rfl, hb', f5⟩
  exact ⟨rfl, Bk, lo, hi, hb', bok_fg h2 x, shr_fg h3 x, h4.fr f5 (fun hh => (h7 X hh).2.1 rfl), h5.fr f5 (fun q h hh => by have := (h7 q hh).1; omega) (fun q h h' hh => (h7 q hh).2.2.1 ⟨h, h'⟩), h6, fun q hq => ⟨(h7 q hq).1, (h7 q hq).2.1, (h7 q hq).2.2.1⟩, h8, h9, h10.trans (f5.below (fun q hq => (h7 q hq).1) h10.size)⟩
/-- written and read again -/
theorem PS.text (h : PS w X t base LL a c wr) : Calls Try.prog 19 #[.pointer (some ⟨t, 0, none⟩)] wr fun e w' => e = .returned (.string (txtS base LL)) ∧ PS w X t base LL a c w' := by
  have h0 := h
  obtain ⟨Bk, lo, hi, h1, h2, h3, h4, h5, h6, h7, h8, h9, h10⟩ := h
  exact (text_any h1 h2 h3 rfl).mono fun e w' ⟨he, b⟩ => ⟨he, h0.next b⟩
theorem PS.load (h : PS w X t base LL a c wr) : Calls Try.prog 18 #[.string (txtS base LL)] wr fun e w' => ∃ t2, e = .returned (.tuple #[.pointer (some ⟨t2, 0, none⟩), .int .i64 0]) ∧ PS w X t2 base LL a c w' := by
  have h0 := h
  obtain ⟨Bk, lo, hi, h1, h2, h3, h4, h5, h6, h7, h8, h9, h10⟩ := h
  have hhi := h5.h
  have hX := h4.lt
  have tsz : (txtS base LL).size ≤ 281474976710656 := by
    have e1 := bodS_size (fun xs hx => (mayB_len (h3 xs hx)).2)
    have e2 := Bt.numS_size base
    have e3 := Bt.numS_size (LL.length : Int)
    have := h2.n
    unfold txtS
    rw [ba_size, ba_size]; omega
  refine (load_any tsz wr).mono ?_
  rintro e w' (⟨e1, _⟩ | ⟨b, l, t2, e1, rfl, hm⟩)
  · rw [pLoad_put h2 h3] at e1; cases e1
  · rw [pLoad_put h2 h3] at e1
    simp only [Option.some.injEq, Prod.mk.injEq] at e1
    obtain ⟨rfl, rfl⟩ := e1
    obtain ⟨Bk2, g1, g2, g3, g4, g5, g6⟩ := hm
    exact ⟨t2, rfl, Bk2, lo, hi, g1, g2, g3, h4.next g5, h5.next g5, h6, fun q hq => by have := g4 q hq; have := h10.size; exact ⟨by omega, by omega, by omega⟩, h8, h9, h10.trans (g5.mono h10.size)⟩
end
end Go.Proofs.Ytlcgicgdlhnfoaa
