/-
  SESSIONS, PLAINLY: where one stands in a list that rises, what becomes of the list.
-/
import Derived.Test.YtkaocpfkigdpoaaRows
namespace Go.Proofs.Ytkaocpfkigdpoaa
abbrev Sn := Int × Int
def pos (id : Int) : List Sn → Nat
  | [] => 0
  | x :: r => if x.1 < id then pos id r + 1 else 0
def sq (id : Int) : List Sn → Int
  | [] => -1
  | x :: r => if x.1 = id then x.2 else sq id r
def Srt (L : List Sn) : Prop := L.Pairwise (fun a b => a.1 < b.1)
theorem pos_le (id : Int) : ∀ L, pos id L ≤ L.length
  | [] => Nat.le_refl _
  | x :: r => by
    unfold pos
    have := pos_le id r
    split <;> simp <;> omega
theorem pos_lo {id : Int} : ∀ {L : List Sn} {k : Nat} (h : k < L.length), k < pos id L → L[k].1 < id
  | x :: r, 0, _, hp => by
    unfold pos at hp
    split at hp
    · assumption
    · omega
  | x :: r, k + 1, h, hp => by
    unfold pos at hp
    split at hp
    · exact pos_lo (L := r) (by simpa using h) (by omega)
    · omega
theorem pos_hi {id : Int} : ∀ {L : List Sn} {k : Nat} (h : k < L.length), Srt L → pos id L ≤ k → id ≤ L[k].1
  | x :: r, 0, _, _, hp => by
    unfold pos at hp
    split at hp
    · omega
    · show id ≤ x.1; omega
  | x :: r, k + 1, h, hs, hp => by
    have hs2 := List.pairwise_cons.1 hs
    unfold pos at hp
    split at hp
    · exact pos_hi (L := r) (by simpa using h) hs2.2 (by omega)
    · have := hs2.1 (r[k]'(by simpa using h)) (List.getElem_mem _)
      show id ≤ (r[k]'(by simpa using h)).1
      omega
theorem pos_uniq {id : Int} {L : List Sn} {m : Nat} (hs : Srt L) (hm : m ≤ L.length) (h1 : ∀ t (h : t < L.length), t < m → L[t].1 < id) (h2 : ∀ t (h : t < L.length), m ≤ t → id ≤ L[t].1) : m = pos id L := by
  have hp := pos_le id L
  rcases Nat.lt_trichotomy m (pos id L) with h | h | h
  · have a := pos_lo (L := L) (k := m) (by omega) h
    have b := h2 m (by omega) (Nat.le_refl _)
    omega
  · exact h
  · have a := pos_hi (L := L) (k := pos id L) (by omega) hs (Nat.le_refl _)
    have b := h1 (pos id L) (by omega) h
    omega
theorem sq_in {id : Int} : ∀ {L : List Sn} {k : Nat} (h : k < L.length), Srt L → L[k].1 = id → sq id L = L[k].2
  | x :: r, 0, _, _, e => by
    have e : x.1 = id := e
    unfold sq; rw [if_pos e]; rfl
  | x :: r, k + 1, h, hs, e => by
    have hs2 := List.pairwise_cons.1 hs
    have hk : k < r.length := by simpa using h
    have := hs2.1 r[k] (List.getElem_mem _)
    have e : r[k].1 = id := e
    unfold sq
    rw [if_neg (by omega)]
    exact sq_in hk hs2.2 e
theorem sq_out {id : Int} : ∀ {L : List Sn}, (∀ k (h : k < L.length), L[k].1 ≠ id) → sq id L = -1
  | [], _ => rfl
  | x :: r, h => by
    unfold sq
    rw [if_neg (show ¬ x.1 = id from h 0 (by simp))]
    exact sq_out fun k hk => h (k + 1) (by simpa using hk)
def M : Int := 549755813888
structure Okt (L : List Sn) : Prop where
  s : Srt L
  id0 : ∀ x ∈ L, 1 ≤ x.1
  idM : ∀ x ∈ L, x.1 ≤ 549755813888
  q0 : ∀ x ∈ L, 0 ≤ x.2
  qM : ∀ x ∈ L, x.2 ≤ 549755813888
  n : L.length ≤ 32
theorem okt_nil : Okt [] := ⟨List.Pairwise.nil, by simp, by simp, by simp, by simp, by simp⟩
/-- it stands there -/
theorem th_yes {id : Int} {L : List Sn} (ok : Okt L) (h : 0 ≤ sq id L) : ∃ hp : pos id L < L.length, L[pos id L].1 = id ∧ L[pos id L].2 = sq id L := by
  by_cases hx : ∃ k, ∃ h : k < L.length, L[k].1 = id
  · obtain ⟨k, hk, e⟩ := hx
    have ek : k = pos id L := pos_uniq ok.s (by omega)
      (fun t ht htk => by
        have := List.pairwise_iff_getElem.1 ok.s t k ht hk htk
        omega)
      (fun t ht htk => by
        rcases Nat.eq_or_lt_of_le htk with rfl | hlt
        · omega
        · have := List.pairwise_iff_getElem.1 ok.s k t hk ht hlt
          omega)
    subst ek
    exact ⟨hk, e, (sq_in hk ok.s e).symm⟩
  · rw [sq_out (fun k hk e => hx ⟨k, hk, e⟩)] at h
    omega
theorem th_no {id : Int} {L : List Sn} (ok : Okt L) (h : sq id L < 0) : ∀ k (hk : k < L.length), L[k].1 ≠ id := fun k hk e => by
  have := sq_in hk ok.s e
  have := ok.q0 L[k] (List.getElem_mem _)
  omega
def ins (id s : Int) (L : List Sn) : List Sn := L.take (pos id L) ++ (id, s) :: L.drop (pos id L)
def put (id s : Int) (L : List Sn) : List Sn := L.set (pos id L) (id, s)
def del (id : Int) (L : List Sn) : List Sn := L.take (pos id L) ++ L.drop (pos id L + 1)
def opT (id : Int) (L : List Sn) : List Sn × Int :=
  if id < 1 ∨ 549755813888 < id then (L, 1) else if 0 ≤ sq id L then (L, 9) else if 32 ≤ L.length then (L, 7) else (ins id 0 L, 0)
def mayT (id s : Int) (L : List Sn) : Bool × Int :=
  if sq id L < 0 then (false, 4) else if s < 1 ∨ 549755813888 < s then (false, 1) else if sq id L + 1 < s then (false, 170) else (decide (sq id L < s), 0)
def tkT (id s : Int) (L : List Sn) : List Sn := if (mayT id s L).1 = true then put id s L else L
def clT (id : Int) (L : List Sn) : List Sn × Int := if sq id L < 0 then (L, 4) else (del id L, 0)
theorem may_fresh {id s : Int} {L : List Sn} (h : (mayT id s L).1 = true) : 0 ≤ sq id L ∧ 1 ≤ s ∧ s ≤ 549755813888 ∧ sq id L < s ∧ s ≤ sq id L + 1 ∧ (mayT id s L).2 = 0 := by
  unfold mayT at h ⊢
  split at h
  · simp at h
  · rename_i h1
    split at h
    · simp at h
    · rename_i h2
      split at h
      · simp at h
      · rename_i h3
        rw [if_neg h1, if_neg h2, if_neg h3]
        have : sq id L < s := by simpa using h
        refine ⟨by omega, by omega, by omega, this, by omega, rfl⟩
theorem ok_ins {id s : Int} {L : List Sn} (ok : Okt L) (h1 : 1 ≤ id) (h2 : id ≤ 549755813888) (h3 : sq id L < 0) (h4 : L.length < 32) (h5 : 0 ≤ s) (h6 : s ≤ 549755813888) : Okt (ins id s L) := by
  have no := th_no ok h3
  have mem : ∀ x ∈ ins id s L, x = (id, s) ∨ x ∈ L := fun x hx => by
    unfold ins at hx
    rcases List.mem_append.1 hx with h | h
    · exact .inr (List.mem_of_mem_take h)
    · rcases List.mem_cons.1 h with h | h
      · exact .inl h
      · exact .inr (List.mem_of_mem_drop h)
  refine ⟨?_, fun x hx => ?_, fun x hx => ?_, fun x hx => ?_, fun x hx => ?_, ?_⟩
  · unfold Srt ins
    rw [List.pairwise_append]
    refine ⟨ok.s.sublist (List.take_sublist _ _), ?_, ?_⟩
    · rw [List.pairwise_cons]
      refine ⟨fun y hy => ?_, ok.s.sublist (List.drop_sublist _ _)⟩
      obtain ⟨k, hk, rfl⟩ := List.mem_iff_getElem.1 hy
      rw [List.length_drop] at hk
      rw [List.getElem_drop]
      have a := pos_hi (id := id) (L := L) (k := pos id L + k) (by omega) ok.s (by omega)
      have b := no (pos id L + k) (by omega)
      show id < _
      omega
    · intro x hx y hy
      obtain ⟨k, hk, rfl⟩ := List.mem_iff_getElem.1 hx
      rw [List.length_take] at hk
      rw [List.getElem_take]
      have a := pos_lo (id := id) (L := L) (k := k) (by omega) (by omega)
      rcases List.mem_cons.1 hy with rfl | hy
      · exact a
      · obtain ⟨j, hj, rfl⟩ := List.mem_iff_getElem.1 hy
        rw [List.length_drop] at hj
        rw [List.getElem_drop]
        have c := pos_hi (id := id) (L := L) (k := pos id L + j) (by omega) ok.s (by omega)
        omega
  · rcases mem x hx with rfl | h
    · exact h1
    · exact ok.id0 x h
  · rcases mem x hx with rfl | h
    · exact h2
    · exact ok.idM x h
  · rcases mem x hx with rfl | h
    · exact h5
    · exact ok.q0 x h
  · rcases mem x hx with rfl | h
    · exact h6
    · exact ok.qM x h
  · unfold ins
    have := pos_le id L
    simp
    omega
theorem ok_put {id s : Int} {L : List Sn} (ok : Okt L) (h3 : 0 ≤ sq id L) (h5 : 0 ≤ s) (h6 : s ≤ 549755813888) : Okt (put id s L) := by
  obtain ⟨hp, e1, e2⟩ := th_yes ok h3
  have mem : ∀ x ∈ put id s L, x = (id, s) ∨ x ∈ L := fun x hx => by
    rcases List.mem_or_eq_of_mem_set hx with h | h
    · exact .inr h
    · exact .inl h
  refine ⟨?_, fun x hx => ?_, fun x hx => ?_, fun x hx => ?_, fun x hx => ?_, ?_⟩
  · unfold Srt put
    rw [List.pairwise_iff_getElem]
    intro i j hi hj hij
    rw [List.length_set] at hi hj
    have := List.pairwise_iff_getElem.1 ok.s i j hi hj hij
    rw [List.getElem_set, List.getElem_set]
    split
    · rename_i h; subst h
      rw [if_neg (by omega)]
      show id < _
      omega
    · split
      · rename_i h; subst h
        show _ < id
        omega
      · exact this
  · rcases mem x hx with rfl | h
    · have := ok.id0 L[pos id L] (List.getElem_mem _)
      show 1 ≤ id; omega
    · exact ok.id0 x h
  · rcases mem x hx with rfl | h
    · have := ok.idM L[pos id L] (List.getElem_mem _)
      show id ≤ _; omega
    · exact ok.idM x h
  · rcases mem x hx with rfl | h
    · exact h5
    · exact ok.q0 x h
  · rcases mem x hx with rfl | h
    · exact h6
    · exact ok.qM x h
  · unfold put; rw [List.length_set]; exact ok.n
theorem del_sub (id : Int) (L : List Sn) : (del id L).Sublist L := by
  unfold del
  conv => rhs; rw [← List.take_append_drop (pos id L) L]
  refine List.Sublist.append (List.Sublist.refl _) ?_
  rw [show pos id L + 1 = pos id L + 1 from rfl, ← List.drop_drop]
  exact List.drop_sublist _ _
theorem ok_del {id : Int} {L : List Sn} (ok : Okt L) : Okt (del id L) := by
  have h := del_sub id L
  exact ⟨ok.s.sublist h, fun x hx => ok.id0 x (h.subset hx), fun x hx => ok.idM x (h.subset hx), fun x hx => ok.q0 x (h.subset hx), fun x hx => ok.qM x (h.subset hx), Nat.le_trans h.length_le ok.n⟩
theorem ok_op {id : Int} {L : List Sn} (ok : Okt L) : Okt (opT id L).1 := by
  unfold opT
  split
  · exact ok
  · split
    · exact ok
    · split
      · exact ok
      · exact ok_ins ok (by omega) (by omega) (by omega) (by omega) (by omega) (by omega)
theorem ok_tk {id s : Int} {L : List Sn} (ok : Okt L) : Okt (tkT id s L) := by
  unfold tkT
  split
  · rename_i h
    obtain ⟨a, b, c, _⟩ := may_fresh h
    exact ok_put ok a (by omega) c
  · exact ok
theorem ok_cl {id : Int} {L : List Sn} (ok : Okt L) : Okt (clT id L).1 := by
  unfold clT
  split
  · exact ok
  · exact ok_del ok
end Go.Proofs.Ytkaocpfkigdpoaa
