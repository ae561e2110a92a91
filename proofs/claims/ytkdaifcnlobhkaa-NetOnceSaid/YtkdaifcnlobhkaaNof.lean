/-
  NetOff: what it goes through.
-/
import Derived.Test.YtkdaifcnlobhkaaNcu
import Derived.Test.YtkdaifcnlobhkaaNfl
namespace Go.Proofs.Ytkdaifcnlobhkaa
open Go.RowKit
/-- pairs in memory -/
def Prs (w : World) (a : Option Addr) (L : List (Int × Int)) : Prop := ∀ i (h : i < L.length), ∃ g o, a = some ⟨g, o, none⟩ ∧ g < w.heap.size ∧ w.cell? ⟨g, o + i * 2, none⟩ = some (.int .i64 L[i].1) ∧ w.cell? ⟨g, o + i * 2 + 1, none⟩ = some (.int .i64 L[i].2)
theorem Prs.below {w w' : World} {a : Option Addr} {L : List (Int × Int)} (h : Prs w a L) (hb : Below w.heap.size w w') : Prs w' a L := fun i hi => by
  obtain ⟨g, o, e, hl, c0, c1⟩ := h i hi
  exact ⟨g, o, e, Nat.lt_of_lt_of_le hl hb.size, (hb.cell (p := ⟨g, _, none⟩) hl).trans c0, (hb.cell (p := ⟨g, _, none⟩) hl).trans c1⟩
/-- who is cut off -/
def CCf (a b : Nat) : Int → Int → Bool := setC noC a b true
theorem cc_iff (a b : Nat) (f t : Int) : CCf a b f t = true ↔ (f = a ∧ t = b ∨ f = b ∧ t = a) := by
  unfold CCf setC
  by_cases h : f = a ∧ t = b ∨ f = b ∧ t = a
  · rw [if_pos h]; exact ⟨fun _ => h, fun _ => rfl⟩
  · rw [if_neg h]; exact ⟨fun k => by simp [noC] at k, fun k => absurd k h⟩
theorem cc_again (a b : Nat) : setC (CCf a b) a b true = CCf a b := by
  funext f t
  unfold setC
  by_cases h : f = a ∧ t = b ∨ f = b ∧ t = a
  · rw [if_pos h, (cc_iff a b f t).2 h]
  · rw [if_neg h]
theorem cc_off (a b : Nat) : setC (CCf a b) b a false = noC := by
  funext f t
  unfold setC
  by_cases h : f = b ∧ t = a ∨ f = a ∧ t = b
  · rw [if_pos h]; rfl
  · rw [if_neg h]
    have : ¬ CCf a b f t = true := fun k => h ((cc_iff a b f t).1 k).symm
    simpa [noC] using this
/-- who is cut off in round k -/
def Ck (a b n k : Nat) : Int → Int → Bool := if n / 2 < k then CCf a b else noC
theorem ck_cut (a b n : Nat) : setC (Ck a b n (n / 2)) a b true = Ck a b n (n / 2 + 1) := by
  unfold Ck
  rw [if_neg (Nat.lt_irrefl _), if_pos (Nat.lt_succ_self _)]
  rfl
theorem ck_same {a b n k : Nat} (h : k ≠ n / 2) : Ck a b n k = Ck a b n (k + 1) := by
  unfold Ck
  by_cases h1 : n / 2 < k
  · rw [if_pos h1, if_pos (by omega)]
  · rw [if_neg h1, if_neg (by omega)]
theorem ck_end (a b n : Nat) : setC (Ck a b n n) a b true = CCf a b := by
  unfold Ck
  split
  · exact cc_again a b
  · rfl
theorem ck_le {a b n k : Nat} {f t : Int} (h : Ck a b n k f t = true) : CCf a b f t = true := by
  unfold Ck at h
  split at h
  · exact h
  · simp [noC] at h
/-- how many come -/
def cnt (a b : Nat) (G : Int → Ask) (R : List Ag.It) : Nat := (selA (CCf a b) G R).length
structure OffI (w : World) (N a b n k : Nat) (Z : Int) (R : List Ag.It) (G : Int → Ask) (C : Int → Int → Bool) (c : Nat) (wr : World) : Prop where
  s : NetS w N Z R G C wr
  l : R.length ≤ k
  z : Z ≤ k
  t : ∀ x ∈ R, x.t = 1
  i : ∀ x ∈ R, x.i ≤ Z
  c : cnt a b G R = c
theorem OffI.next {w wr w' : World} {N a b n k : Nat} {Z : Int} {R : List Ag.It} {G : Int → Ask} {C : Int → Int → Bool} {c : Nat} (h : OffI w N a b n k Z R G C c wr) (hb : Below wr.heap.size wr w') : OffI w N a b n k Z R G C c w' :=
  ⟨h.s.next hb, h.l, h.z, h.t, h.i, h.c⟩
/-- what an ask adds -/
def addO (a b : Nat) (f t : Int) : Nat := if f = t ∨ CCf a b f t = true then 0 else 1
def SentO (w : World) (N a b n k : Nat) (C : Int → Int → Bool) (c : Nat) (f t : Int) (e : Ending) (w' : World) : Prop :=
  ∃ id er Z' R' G', e = .returned (.tuple #[.int .i64 id, .int .i64 er]) ∧ er = (if f = t then 1 else 0) ∧ OffI w N a b n (k + 1) Z' R' G' C (c + addO a b f t) w'
theorem send_off {w wr : World} {N a b n k : Nat} {Z : Int} {R : List Ag.It} {G : Int → Ask} {c : Nat} (h : OffI w N a b n k Z R G (Ck a b n (k + 1)) c wr) (hk : k < 100) (f t : Nat) (hf : f < 7) (ht : t < 7) :
    Calls Try.prog 12 #[.pointer (some ⟨N, 0, none⟩), .int .i64 0, .agg (askA f t k), .int .i64 1] wr (SentO w N a b n k (Ck a b n (k + 1)) c f t) := by
  have hl := h.l
  have hz := h.z
  by_cases hft : f = t
  · subst hft
    refine (send_same h.s 0 1 f k (by omega)).mono ?_
    rintro e w' ⟨rfl, hs⟩
    exact ⟨0, 1, Z, R, G, rfl, by rw [if_pos rfl], hs, by omega, by omega, h.t, h.i, by rw [h.c]; unfold addO; rw [if_pos (.inl rfl)]; rfl⟩
  have hft' : ¬ (f : Int) = (t : Int) := by omega
  have ok : OkA ⟨f, t, k⟩ := ⟨by simp only; omega, by simp only; omega, by simp only; omega, hft'⟩
  by_cases hC : Ck a b n (k + 1) f t = true
  · refine (send_cut h.s 0 1 ⟨f, t, k⟩ ok (by decide) (by decide) hC).mono ?_
    rintro e w' ⟨rfl, hs⟩
    exact ⟨0, 0, Z, R, G, rfl, by rw [if_neg hft'], hs, by omega, by omega, h.t, h.i, by rw [h.c]; unfold addO; rw [if_pos (.inr (ck_le hC))]; rfl⟩
  · have hC' : Ck a b n (k + 1) f t = false := by simpa using hC
    refine (send_any h.s 0 1 ⟨f, t, k⟩ ok (by decide) (by decide) hC' (by omega) (by omega)).mono ?_
    rintro e w' ⟨rfl, hs⟩
    have e1 : (0 : Int) + 1 = 1 := by decide
    have hi : Ag.ins ⟨0 + 1, Z + 1, 0⟩ R = R ++ [⟨1, Z + 1, 0⟩] := by
      rw [e1]
      exact ins_last (fun y hy => by
        have h1 := h.t y hy
        have h2 := h.i y hy
        unfold Ag.It.lt
        right
        exact ⟨h1, by simp only; omega⟩)
    rw [hi] at hs
    refine ⟨Z + 1, 0, Z + 1, _, _, rfl, by rw [if_neg hft'], hs, by rw [List.length_append]; simp only [List.length_cons, List.length_nil]; omega, by omega, ?_, ?_, ?_⟩
    · intro x hx
      rcases List.mem_append.1 hx with hx | hx
      · exact h.t x hx
      · rw [List.mem_singleton.1 hx]
    · intro x hx
      rcases List.mem_append.1 hx with hx | hx
      · have := h.i x hx; omega
      · rw [List.mem_singleton.1 hx]; exact Int.le_refl _
    · rw [← h.c]
      unfold cnt selA
      rw [List.map_append, List.filter_append, List.length_append]
      have eR : R.map (fun x => if x.i = Z + 1 then (⟨f, t, k⟩ : Ask) else G x.i) = R.map (fun x => G x.i) := List.map_congr_left (fun x hx => by
        have := h.i x hx
        rw [if_neg (by omega)])
      rw [eR]
      congr 1
      simp only [List.map_cons, List.map_nil, if_true]
      unfold addO
      by_cases hcc : CCf a b f t = true
      · rw [if_pos (.inr hcc)]; simp [hcc]
      · rw [if_neg (fun h => h.elim hft' hcc)]
        have : CCf a b f t = false := by simpa using hcc
        simp [this]
/-- an ask of those that came -/
theorem cellsM_get {L : List Ask} {k j : Nat} (hk : k < L.length) (hj : j < 13) : (cellsM L)[k * 13 + j]? = (askA L[k].f L[k].t L[k].m)[j]? := by
  induction L generalizing k with
  | nil => simp at hk
  | cons x L ih =>
    have e : cellsM (x :: L) = (askA x.f x.t x.m).toList ++ cellsM L := rfl
    have hl : (askA x.f x.t x.m).toList.length = 13 := rfl
    cases k with
    | zero =>
      rw [e, List.getElem?_append_left (by omega), Nat.zero_mul, Nat.zero_add]
      simp
    | succ k =>
      rw [e, List.getElem?_append_right (by omega), hl, show (k + 1) * 13 + j - 13 = k * 13 + j by omega]
      exact ih (by simpa using hk)
theorem row_ask {w : World} {B : Nat} {v : Value} {n : Nat} {L : List Ask} (hn : n = L.length) (h : w.ownsRow B 35 13 v n (cellsM L)) {k : Nat} (hk : k < L.length) : ∃ g c, v = .slice (some ⟨g, 0, none⟩) n c ∧ ∀ j, j < 13 → w.cell? ⟨g, k * 13 + j, none⟩ = (askA L[k].f L[k].t L[k].m)[j]? := by
  subst hn
  have hl : (cellsM L).length = L.length * 13 := h.1
  obtain ⟨g, cap, rfl, _, _⟩ := h.form (by omega)
  exact ⟨g, cap, rfl, fun j hj => by rw [h.cellAt _ (by omega)]; exact cellsM_get hk hj⟩
theorem selA_off {C : Int → Int → Bool} {G : Int → Ask} {X : List Ag.It} {a : Ask} (h : a ∈ selA C G X) : C a.f a.t = false := by
  unfold selA at h
  have := (List.mem_filter.1 h).2
  simpa using this
end Go.Proofs.Ytkdaifcnlobhkaa
