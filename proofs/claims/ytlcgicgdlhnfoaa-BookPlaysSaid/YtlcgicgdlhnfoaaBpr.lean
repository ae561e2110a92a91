/-
  BookPlays: what is read of both books; matches read, that are written to; the start.
-/
import Derived.Test.YtlcgicgdlhnfoaaBps
namespace Go.Proofs.Ytlcgicgdlhnfoaa
open Go.RowKit
/-- matches that were read, each in a block behind B, each with a pick -/
def Got (B : Nat) (w : World) (a : Option Addr) (m : Nat) : Prop := ∀ k, k < m → ∃ g cg q n c X, a = some ⟨g, 0, none⟩ ∧ Blk w g 37 cg ∧ cg[k]? = some (.slice (some ⟨q, 0, none⟩) n c) ∧ 0 < n ∧ Blk w q 3 X ∧ 0 < X.size ∧ B ≤ q
theorem got_of {B : Nat} {w : World} {v : Value} {ms : List Mv} (h : OwnM w B v ms) (hl : ∀ z ∈ ms, 1 ≤ z.2.length) : ∃ a c, v = .slice a ms.length c ∧ Got B w a ms.length := by
  obtain ⟨a, c, rfl⟩ := h.form
  refine ⟨a, c, rfl, fun k hk => ?_⟩
  have h0 := h.1
  have hm := hl ms[k] (List.getElem_mem hk)
  have hn := h.2 ms[k] (List.getElem_mem hk)
  have hn0 := hn
  rcases h.1.2 with ⟨_, e⟩ | ⟨g, cap, cg, e3, hb, hg, _⟩
  · omega
  rcases hn.2 with ⟨_, e⟩ | ⟨q, cq, X, e4, hb4, hq, _⟩
  · omega
  simp only [Value.slice.injEq] at e3
  obtain ⟨rfl, -, rfl⟩ := e3
  have kg : Blk w g 37 cg := hg
  have kq : Blk w q 3 X := hq
  have c1 : cg[k]? = some ms[k].1 := by
    have := h0.cellAt k (by omega)
    rw [kg.cell] at this
    rw [this, List.getElem?_map, List.getElem?_eq_getElem hk]; rfl
  have c2 : X[0]? = some (.int .i64 ms[k].2[0]) := by
    have hn1 : w.ownsRow B 3 1 (.slice (some ⟨q, 0, none⟩) ms[k].2.length cq) ms[k].2.length (ms[k].2.map (Value.int .i64)) := by
      have := hn0
      unfold OwnN at this
      rw [e4] at this
      exact this
    have := hn1.cellAt 0 (by omega)
    rw [kq.cell] at this
    rw [this, List.getElem?_map, List.getElem?_eq_getElem (by omega)]; rfl
  rw [e4] at c1
  exact ⟨g, cg, q, _, cq, X, rfl, kg, c1, by omega, kq, (Array.getElem?_eq_some_iff.1 c2).1, hb4⟩
theorem Got.next {B : Nat} {w w' : World} {a : Option Addr} {m : Nat} (h : Got B w a m) (b : Below w.heap.size w w') : Got B w' a m := fun k hk => by
  obtain ⟨g, cg, q, n, c, X, e, k1, k2, k0, k3, k4, k5⟩ := h k hk
  exact ⟨g, cg, q, n, c, X, e, k1.next b, k2, k0, k3.next b, k4, k5⟩
theorem Got.set {B : Nat} {w : World} {a : Option Addr} {m p : Nat} {Y : Array Value} (h : Got B w a m) (hp : Blk w p 3 Y) (u : Value) : Got B (w.setCell ⟨p, 0, none⟩ u) a m := fun k hk => by
  obtain ⟨g, cg, q, n, c, X, e, k1, k2, k0, k3, k4, k5⟩ := h k hk
  have f := fr_set w p 0 u
  by_cases hqp : q = p
  · subst hqp
    exact ⟨g, cg, q, n, c, _, e, k1.fr f (fun hh => by subst hh; exact absurd (k1.ty k3) (by decide)), k2, k0, k3.set 0 u, by rw [Array.size_setIfInBounds]; exact k4, k5⟩
  · exact ⟨g, cg, q, n, c, X, e, k1.fr f (fun hh => by subst hh; exact absurd (k1.ty hp) (by decide)), k2, k0, k3.fr f hqp, k4, k5⟩
/-- behind the document's reading: the book's, Rows, Same -/
def RdK (t : Nat) (x y : Int) (m : Nat) (am : Option Addr) (cm : Nat) (nx f : Int) (w1 : World) : Prop :=
  ∀ w2, Below w1.heap.size w1 w2 → Calls Try.prog 13 #[.pointer (some ⟨t, 0, none⟩), .int .i64 x, .int .i64 y] w2 fun e w3 => ∃ ag cg, e = .returned (.tuple #[.slice ag m cg, .int .i64 nx, .int .i64 f]) ∧ Below w2.heap.size w2 w3 ∧ Got w2.heap.size w3 ag m ∧
    ∀ w4, Below w3.heap.size w3 w4 → Calls Try.prog 15 #[.slice ag m cg] w4 fun e w5 => ∃ ar cr, e = .returned (.slice ar m cr) ∧ Below w4.heap.size w4 w5 ∧
      ∀ w6, Below w5.heap.size w5 w6 → Calls Try.prog 14 #[.slice ar m cr, .slice am m cm] w6 fun e w7 => e = .returned (.bool true) ∧ Below w6.heap.size w6 w7
theorem rdk_of {t : Nat} {x y nx f : Int} {SL : List (List Int)} {am : Option Addr} {cm : Nat} {w1 : World} (h : Rws w1 am SL) (hl : SL.length ≤ 64) (hs : ∀ xs ∈ SL, 1 ≤ xs.length ∧ xs.length ≤ 16)
    (hr : ∀ w2, Below w1.heap.size w1 w2 → Calls Try.prog 13 #[.pointer (some ⟨t, 0, none⟩), .int .i64 x, .int .i64 y] w2 fun e w3 => ∃ v ms, e = .returned (.tuple #[v, .int .i64 nx, .int .i64 f]) ∧ ms.map (fun z : Mv => z.2) = SL ∧ OwnM w3 w2.heap.size v ms ∧ Below w2.heap.size w2 w3) : RdK t x y SL.length am cm nx f w1 := fun w2 b2 => by
  refine (hr w2 b2).mono ?_
  rintro e w3 ⟨v, ms, rfl, hms, ho, b3⟩
  obtain ⟨ag, cg, rfl, hg⟩ := got_of ho (fun z hz => (hs z.2 (by rw [← hms]; exact List.mem_map.2 ⟨z, hz, rfl⟩)).1)
  have hlen : ms.length = SL.length := by rw [← hms, List.length_map]
  rw [hlen] at ho hg ⊢
  have rw3 := ho.rws hms
  have b13 : Below w1.heap.size w1 w3 := b2.trans (b3.mono b2.size)
  refine ⟨ag, cg, rfl, b3, hg, fun w4 b4 => ?_⟩
  refine (rows_any cg (rw3.next b4) (by omega)).mono ?_
  rintro e w5 ⟨ar, cr, rfl, r5, b5⟩
  have b15 : Below w1.heap.size w1 w5 := (b13.trans (b4.mono b13.size)).trans (b5.mono (Nat.le_trans b13.size b4.size))
  refine ⟨ar, cr, rfl, b5, fun w6 b6 => ?_⟩
  exact same14_yes cr cm (r5.next b6) (h.next (b15.trans (b6.mono b15.size))) (by omega) (fun xs hx => by have := (hs xs hx).2; omega)
theorem own_m_nil (w : World) (B : Nat) : OwnM w B (.slice none 0 0) [] := ⟨World.ownsRow_nil _ _ _ _, fun x hx => by simp at hx⟩
theorem PS.rd {w wr : World} {X t : Nat} {base : Int} {LL : List (List Int)} {a : Option Addr} {c : Nat} (x y : Int) (h : PS w X t base LL a c wr) (hx : x ≤ 9223372036854775807) :
    Calls Try.prog 12 #[.agg #[.int .i64 base, .slice a LL.length c], .int .i64 x, .int .i64 y] wr fun e w1 => ∃ (m : Nat) (am : Option Addr) (cm : Nat) (nx f : Int), e = .returned (.tuple #[.slice am m cm, .int .i64 nx, .int .i64 f]) ∧ m ≤ 64 ∧ Below wr.heap.size wr w1 ∧ RdK t x y m am cm nx f w1 := by
  obtain ⟨Bk, lo, hi, h1, h2, h3, h4, h5, h6, h7, h8, h9, h10⟩ := h
  refine (rread_any c x y h5.rws h2.b0 h2.b1 h2.n hx).mono ?_
  rintro e w1 ⟨b1, hc⟩
  have r0 : Rws w1 none [] := fun i hi => by simp at hi
  have s0 : ∀ xs ∈ ([] : List (List Int)), 1 ≤ xs.length ∧ xs.length ≤ 16 := fun xs hx => by simp at hx
  rcases hc with ⟨hb, rfl⟩ | ⟨h0, hb, rfl⟩ | ⟨h0, hb, am, cm, rfl, hr⟩
  · refine ⟨0, none, 0, 0, 1, rfl, by simp, b1, rdk_of r0 (by simp) s0 fun w2 b2 => ?_⟩
    refine (read_bad base LL hb).mono fun e w3 hrd => ?_
    obtain ⟨rfl, b3⟩ := rdd_bad hrd hb
    exact ⟨_, [], rfl, rfl, own_m_nil _ _, b3⟩
  · refine ⟨0, none, 0, base, 180, rfl, by simp, b1, rdk_of r0 (by simp) s0 fun w2 b2 => ?_⟩
    refine (read_gone ((h1.next b1).next b2) h0.1 h0.2 hb).mono fun e w3 hrd => ?_
    obtain ⟨rfl, b3⟩ := rdd_gone hrd h0.1 h0.2 hb
    exact ⟨_, [], rfl, rfl, own_m_nil _ _, b3⟩
  · have hsub : ∀ xs ∈ sub base LL x y, xs ∈ LL := fun xs hx => by
      unfold sub at hx
      exact List.mem_of_mem_drop (List.mem_of_mem_take hx)
    have hlen : (sub base LL x y).length ≤ 64 := by
      have := h2.n
      unfold sub
      rw [List.length_take, List.length_drop]
      have := Nat.min_le_right y.toNat (LL.length - (x - base).toNat)
      omega
    refine ⟨(sub base LL x y).length, am, cm, _, 0, rfl, hlen, b1, rdk_of hr hlen (fun xs hx => mayB_len (h3 xs (hsub xs hx))) fun w2 b2 => ?_⟩
    refine (read_ok ((h1.next b1).next b2) h2 h3.short h0.1 h0.2 hb hx).mono fun e w3 hrd => ?_
    obtain ⟨v, ms, rfl, q1, q2, q3⟩ := rdd_ok hrd h0.1 h0.2 hb
    exact ⟨v, ms, rfl, q1, q2, q3⟩
/-- picks of the call's own, in a block from s1 to s2 -/
def Pk (s1 s2 : Nat) (w : World) (p : Option Addr) (n : Nat) : Prop := ∀ k, k < n → ∃ g cs, p = some ⟨g, 0, none⟩ ∧ Blk w g 3 cs ∧ n ≤ cs.size ∧ s1 ≤ g ∧ g < s2
theorem pk_of {w : World} {B : Nat} {v : Value} {xs : List Int} (h : OwnN w B v xs) : ∃ p c, v = .slice p xs.length c ∧ Nums w p xs ∧ Pk B w.heap.size w p xs.length ∧ ∀ pp, p = some pp → B ≤ pp.block := by
  obtain ⟨p, c, rfl, hn⟩ := h.nums
  refine ⟨p, c, rfl, hn, fun k hk => ?_, fun pp hp => (own_ty h pp.block (by rw [hp]; rfl)).1⟩
  have h0 := h
  rcases h.2 with ⟨_, e⟩ | ⟨g, cap, cs, e3, hb, hg, _⟩
  · omega
  simp only [Value.slice.injEq] at e3
  obtain ⟨rfl, -, rfl⟩ := e3
  have kg : Blk w g 3 cs := hg
  have c1 : cs[xs.length - 1]? = some (.int .i64 xs[xs.length - 1]) := by
    have := World.ownsRow.cellAt h0 (xs.length - 1) (by omega)
    rw [kg.cell] at this
    rw [this, List.getElem?_map, List.getElem?_eq_getElem (by omega)]; rfl
  have := (Array.getElem?_eq_some_iff.1 c1).1
  exact ⟨g, cs, rfl, kg, by omega, hb, kg.lt⟩
section
variable {s1 s2 : Nat} {w w' : World} {p : Option Addr} {n : Nat}
theorem Pk.fr {P : Nat → Prop} (h : Pk s1 s2 w p n) (f : Fr w w' P) (hP : ∀ q, s1 ≤ q → q < s2 → ¬ P q) : Pk s1 s2 w' p n := fun k hk => by
  obtain ⟨g, cs, e, k1, k2, k3, k4⟩ := h k hk
  exact ⟨g, cs, e, k1.fr f (hP g k3 k4), k2, k3, k4⟩
theorem Pk.next (h : Pk s1 s2 w p n) (b : Below w.heap.size w w') : Pk s1 s2 w' p n := h.fr (Fr.of_below b (fun _ => False)) (fun _ _ _ h => h)
theorem Pk.set (h : Pk s1 s2 w p n) (i g : Nat) (u : Value) (hp : p = some ⟨g, 0, none⟩) : Pk s1 s2 (w.setCell ⟨g, i, none⟩ u) p n := fun k hk => by
  obtain ⟨g', cs, e, k1, k2, k3, k4⟩ := h k hk
  rw [hp] at e
  simp only [Option.some.injEq, Addr.mk.injEq, and_true] at e
  subst e
  exact ⟨g, _, hp, k1.set i u, by rw [Array.size_setIfInBounds]; exact k2, k3, k4⟩
end
theorem ps_start {w w1 : World} (hb : BookAt w1 (fun q => q = w.heap.size) w.heap.size 0 []) (b : Below w.heap.size w w1) : PS w w1.heap.size w.heap.size 0 [] none 0 (w1.alloc (.cells #[.int .i64 0, .slice none 0 0] 27)) := by
  have hlt : w.heap.size < w1.heap.size := by
    obtain ⟨_, _, _, _, _, _, _, h⟩ := hb
    exact h _ rfl
  have b1 : Below w1.heap.size w1 (w1.alloc (.cells #[.int .i64 0, .slice none 0 0] 27)) := (Below.refl _ w1).alloc (Nat.le_refl _) _
  exact ⟨_, 0, 0, hb.next b1, ⟨by decide, by decide, by decide⟩, fun _ h => by simp at h, Blk.new _ _ _, ⟨fun i h => by simp at h, Nat.zero_le _⟩, ⟨by simp, by decide⟩, fun q hq => by subst hq; exact ⟨Nat.le_refl _, by omega, by omega⟩, by omega, by omega, b.trans (b1.mono b.size)⟩
end Go.Proofs.Ytlcgicgdlhnfoaa
