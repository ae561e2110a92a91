/-
  THE DOCUMENT'S with AND without, PLAINLY: what they make of a list that rises.
-/
import Derived.Test.YtkaocpfkigdpoaaRwi
import Derived.Test.YtkaocpfkigdpoaaPla2
namespace Go.Proofs.Ytkaocpfkigdpoaa
theorem wf_true (x : Sn) (B : List Sn) : ∀ S, B.foldl (wstp x) (S, true) = (S ++ B, true) := by
  induction B with
  | nil => intro S; simp
  | cons y B ih =>
    intro S
    rw [List.foldl_cons, show wstp x (S, true) y = (S ++ [y], true) from by unfold wstp; rw [if_neg (fun h => by cases h.1)], ih]
    simp
theorem wf_false (x : Sn) (A : List Sn) : ∀ S, (∀ y ∈ A, ¬ x.1 < y.1) → A.foldl (wstp x) (S, false) = (S ++ A, false) := by
  induction A with
  | nil => intro S _; simp
  | cons y A ih =>
    intro S h
    rw [List.foldl_cons, show wstp x (S, false) y = (S ++ [y], false) from by unfold wstp; rw [if_neg (fun hh => h y (by simp) hh.2)], ih _ (fun z hz => h z (by simp [hz]))]
    simp
theorem wi_split {x : Sn} {A B : List Sn} (hA : ∀ y ∈ A, ¬ x.1 < y.1) (hB : ∀ y ∈ B, x.1 < y.1) : wi x (A ++ B) = A ++ x :: B := by
  unfold wi wfold
  rw [List.foldl_append, wf_false x A [] hA, List.nil_append]
  cases B with
  | nil => simp
  | cons y B =>
    rw [List.foldl_cons, show wstp x (A, false) y = (A ++ [x] ++ [y], true) from by unfold wstp; rw [if_pos ⟨rfl, hB y (by simp)⟩], wf_true]
    simp
theorem wi_ins {id s : Int} {L : List Sn} (ok : Okt L) (h : sq id L < 0) : wi (id, s) L = ins id s L := by
  conv => lhs; rw [← List.take_append_drop (pos id L) L]
  refine wi_split (fun y hy => ?_) (fun y hy => ?_)
  · obtain ⟨k, hk, rfl⟩ := List.mem_iff_getElem.1 hy
    rw [List.length_take] at hk
    rw [List.getElem_take]
    have := pos_lo (id := id) (L := L) (k := k) (by omega) (by omega)
    show ¬ id < _
    omega
  · obtain ⟨k, hk, rfl⟩ := List.mem_iff_getElem.1 hy
    rw [List.length_drop] at hk
    rw [List.getElem_drop]
    have a := pos_hi (id := id) (L := L) (k := pos id L + k) (by omega) ok.s (by omega)
    have b := th_no ok h (pos id L + k) (by omega)
    show id < _
    omega
theorem wi_put {id s : Int} {L : List Sn} (ok : Okt L) (h : 0 ≤ sq id L) : wi (id, s) (wo id L) = put id s L := by
  obtain ⟨hp, e1, _⟩ := th_yes ok h
  have e : wo id L = L.take (pos id L) ++ L.drop (pos id L + 1) := by
    have := del_eq ok h
    unfold del at this
    rw [this]
    rfl
  rw [e]
  have : put id s L = L.take (pos id L) ++ (id, s) :: L.drop (pos id L + 1) := by
    unfold put
    rw [List.set_eq_take_append_cons_drop, if_pos hp]
  rw [this]
  refine wi_split (fun y hy => ?_) (fun y hy => ?_)
  · obtain ⟨k, hk, rfl⟩ := List.mem_iff_getElem.1 hy
    rw [List.length_take] at hk
    rw [List.getElem_take]
    have := pos_lo (id := id) (L := L) (k := k) (by omega) (by omega)
    show ¬ id < _
    omega
  · obtain ⟨k, hk, rfl⟩ := List.mem_iff_getElem.1 hy
    rw [List.length_drop] at hk
    rw [List.getElem_drop]
    have := List.pairwise_iff_getElem.1 ok.s (pos id L) (pos id L + 1 + k) hp (by omega) (by omega)
    show id < _
    omega
theorem wo_del {id : Int} {L : List Sn} (ok : Okt L) (h : 0 ≤ sq id L) : wo id L = del id L := (del_eq ok h).symm
end Go.Proofs.Ytkaocpfkigdpoaa
