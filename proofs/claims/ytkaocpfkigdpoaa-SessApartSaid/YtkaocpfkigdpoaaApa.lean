/-
  TWO TABLES SIDE BY SIDE; texts tell tables apart.
-/
import Derived.Test.YtkaocpfkigdpoaaAwk
import Derived.Test.YtkaocpfkigdpoaaSme
import Derived.Test.YtkaocpfkigdpoaaBWas
namespace Go.Proofs.Ytkaocpfkigdpoaa
open Go.RowKit
theorem num_cancel {a b : Int} {x y : ByteArray} (ha : 0 ≤ a ∧ a < 18446744073709551616) (hb : 0 ≤ b ∧ b < 18446744073709551616) (h : Bt.numS a ++ x = Bt.numS b ++ y) : a = b ∧ x = y := by
  obtain ⟨m, rfl⟩ : ∃ m : Nat, a = m := ⟨a.toNat, by omega⟩
  obtain ⟨n, rfl⟩ : ∃ m : Nat, b = m := ⟨b.toNat, by omega⟩
  have h1 := congrArg (fun s : ByteArray => s.data.toList) h
  simp only [Bt.cat_data] at h1
  have r1 := Bt.rd_num m (by omega) x.data.toList
  have r2 := Bt.rd_num n (by omega) y.data.toList
  rw [h1, r2] at r1
  injection r1 with e1 _
  subst e1
  exact ⟨rfl, Bt.bytes_ext (List.append_cancel_left h1)⟩
def Bd (L : List Sn) : Prop := ∀ x ∈ L, (0 ≤ x.1 ∧ x.1 < 18446744073709551616) ∧ 0 ≤ x.2 ∧ x.2 < 18446744073709551616
theorem Okt.bd {L : List Sn} (ok : Okt L) : Bd L := fun x hx => by
  have := ok.id0 x hx
  have := ok.idM x hx
  have := ok.q0 x hx
  have := ok.qM x hx
  exact ⟨⟨by omega, by omega⟩, by omega, by omega⟩
theorem bod_inj : ∀ {L R : List Sn}, L.length = R.length → Bd L → Bd R → bodS L = bodS R → L = R
  | [], [], _, _, _, _ => rfl
  | x :: L, y :: R, hl, h1, h2, h => by
    have h : (Bt.numS x.1 ++ Bt.numS x.2) ++ bodS L = (Bt.numS y.1 ++ Bt.numS y.2) ++ bodS R := h
    rw [ba_assoc, ba_assoc] at h
    obtain ⟨e1, h⟩ := num_cancel (h1 x (by simp)).1 (h2 y (by simp)).1 h
    obtain ⟨e2, h⟩ := num_cancel (h1 x (by simp)).2 (h2 y (by simp)).2 h
    rw [show x = y from Prod.ext e1 e2, bod_inj (by simpa using hl) (fun z hz => h1 z (by simp [hz])) (fun z hz => h2 z (by simp [hz])) h]
theorem txt_inj {L R : List Sn} (hl : L.length ≤ 1000) (hr : R.length ≤ 1000) (h1 : Bd L) (h2 : Bd R) (h : txtS L = txtS R) : L = R := by
  obtain ⟨e, h⟩ := num_cancel (by omega) (by omega) h
  exact bod_inj (by omega) h1 h2 h
theorem row_ne {w : World} {B U : Nat} {v : Value} {L : List Sn} {cs : Array Value} (h : Own w B v L) (k : Blk w U 54 cs) : v.ownBlock ≠ some U := by
  intro e
  rcases h.2 with ⟨rfl, _⟩ | ⟨g, cap, cur, rfl, _, hg, _⟩
  · cases e
  · have : g = U := by simpa [Value.ownBlock] using e
    subst this
    rw [show w.heap[g]? = _ from k] at hg
    simp at hg
/-- two tables side by side -/
def Two (w0 w : World) (T U : Nat) (L R : List Sn) : Prop :=
  ∃ v u, Tab w T v L ∧ Tab w U u R ∧ Okt L ∧ Okt R ∧ T ≠ U ∧ w0.heap.size ≤ T ∧ w0.heap.size ≤ U ∧ (∀ q, v.ownBlock = some q → u.ownBlock ≠ some q) ∧ Below w0.heap.size w0 w
theorem Two.symm {w0 w : World} {T U : Nat} {L R : List Sn} (h : Two w0 w T U L R) : Two w0 w U T R L := by
  obtain ⟨v, u, a, b, c, d, e, f, g, i, j⟩ := h
  exact ⟨u, v, b, a, d, c, Ne.symm e, g, f, fun q hq hv => i q hv hq, j⟩
theorem Two.below {w0 w : World} {T U : Nat} {L R : List Sn} (h : Two w0 w T U L R) : Below w0.heap.size w0 w := by
  obtain ⟨v, u, a, b, c, d, e, f, g, i, j⟩ := h
  exact j
theorem Two.next {w0 w w' : World} {T U : Nat} {L R : List Sn} (h : Two w0 w T U L R) (hb : Below w.heap.size w w') : Two w0 w' T U L R := by
  obtain ⟨v, u, a, b, c, d, e, f, g, i, j⟩ := h
  exact ⟨v, u, a.next hb, b.next hb, c, d, e, f, g, i, j.trans (hb.mono j.size)⟩
theorem Two.res {w0 w : World} {T U : Nat} {L R L' : List Sn} {r : Value} {f : FuncId} {args : Array Value} (h : Two w0 w T U L R) (hc : ∀ v, Tab w T v L → Calls Try.prog f args w (Res w T v L' r)) (ok : Okt L') :
    Calls Try.prog f args w fun e w' => e = .returned r ∧ Two w0 w' T U L' R := by
  obtain ⟨v, u, a, b, c, d, e, hf, g, i, j⟩ := h
  refine (hc v a).mono ?_
  rintro e' w' ⟨he, ch⟩
  have bel := ch.bel a hf
  obtain ⟨v', T', fr, q'⟩ := ch
  have nU : ¬ Foot T v U := by
    rintro (h | h)
    · exact e h.symm
    · exact row_ne a.own b.blk h
  have nu : ∀ q, u.ownBlock = some q → ¬ Foot T v q := by
    rintro q hq (h | h)
    · subst h; exact row_ne b.own a.blk hq
    · exact i q h hq
  refine ⟨he, v', u, T', b.fr fr nU nu, ok, d, e, hf, g, fun q hq hu => ?_, j.trans bel⟩
  have hlt := (own_ne b.own q hu).2
  rcases q' with q' | q'
  · exact i q (by rw [← q']; exact hq) hu
  · have := q' q hq; omega
theorem Two.open {w0 w : World} {T U : Nat} {L R : List Sn} (h : Two w0 w T U L R) (id : Int) : Calls Try.prog 12 #[.pointer (some ⟨T, 0, none⟩), .int .i64 id] w fun e w' => e = .returned (.int .i64 (opT id L).2) ∧ Two w0 w' T U (opT id L).1 R := by
  have ok : Okt L := by obtain ⟨v, u, a, b, c, _⟩ := h; exact c
  exact h.res (fun v a => open_any id a ok) (ok_op ok)
theorem Two.take {w0 w : World} {T U : Nat} {L R : List Sn} (h : Two w0 w T U L R) (id s : Int) : Calls Try.prog 14 #[.pointer (some ⟨T, 0, none⟩), .int .i64 id, .int .i64 s] w fun e w' => e = .returned (.tuple #[.bool (mayT id s L).1, .int .i64 (mayT id s L).2]) ∧ Two w0 w' T U (tkT id s L) R := by
  have ok : Okt L := by obtain ⟨v, u, a, b, c, _⟩ := h; exact c
  exact h.res (fun v a => take_any id s a ok) (ok_tk ok)
theorem Two.text {w0 w : World} {T U : Nat} {L R : List Sn} (h : Two w0 w T U L R) : Calls Try.prog 19 #[.pointer (some ⟨T, 0, none⟩)] w fun e w' => e = .returned (.string (txtS L)) ∧ Two w0 w' T U L R := by
  have h0 := h
  obtain ⟨v, u, a, b, c, _⟩ := h
  exact (text_any a c).mono fun e w' ⟨he, hb⟩ => ⟨he, h0.next hb⟩
theorem Two.all {w0 w : World} {T U : Nat} {L R : List Sn} (h : Two w0 w T U L R) : Calls Try.prog 22 #[.pointer (some ⟨T, 0, none⟩)] w fun e w' => ∃ v', e = .returned v' ∧ Ses w' v' L ∧ Below w.heap.size w w' ∧ Two w0 w' T U L R := by
  have h0 := h
  obtain ⟨v, u, a, b, c, _⟩ := h
  have := c.n
  exact (all_any a (by omega)).mono fun e w' ⟨v', he, o, hb⟩ => ⟨v', he, o.ses, hb, h0.next hb⟩
theorem two_new (w w1 w2 : World) (b1 : Below w.heap.size w w1) (T1 : Tab w1 w.heap.size (.slice none 0 0) []) (b2 : Below w1.heap.size w1 w2) (T2 : Tab w2 w1.heap.size (.slice none 0 0) []) : Two w w2 w.heap.size w1.heap.size [] [] := by
  have h1 := T1.blk.lt
  exact ⟨_, _, T1.next b2, T2, okt_nil, okt_nil, by omega, Nat.le_refl _, b1.size, (fun q hq => by cases hq), b1.trans (b2.mono b1.size)⟩
end Go.Proofs.Ytkaocpfkigdpoaa
