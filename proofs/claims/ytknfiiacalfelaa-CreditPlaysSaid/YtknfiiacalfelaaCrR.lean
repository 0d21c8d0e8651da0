/-
  Once round the ring from the last served seat on.
  Conditions: none.
-/
import Derived.Test.YtknfiiacalfelaaCrS
namespace Go.Proofs.Ytknfiiacalfelaa
open Go.RowKit Go.Shelf
set_option linter.unusedVariables false
set_option linter.unusedSimpArgs false

section
variable {w w' : World} {B qb rb mb sv : Nat} {X : List ST} {s : CP}
/-- Rows of seats as rows of X's. -/
def attX (X L : List ST) (h : ∀ x ∈ L, x ∈ X) : List { x : ST // x ∈ X } := L.attachWith (· ∈ X) h
theorem attX_val {L : List ST} (h : ∀ x ∈ L, x ∈ X) : (attX X L h).map (·.1) = L := by
  unfold attX
  exact List.attachWith_map_subtype_val h
theorem attX_append {L M : List ST} (h : ∀ x ∈ L ++ M, x ∈ X) : attX X (L ++ M) h = attX X L (fun x hx => h x (by simp [hx])) ++ attX X M (fun x hx => h x (by simp [hx])) := by
  unfold attX
  exact List.attachWith_append ..
/-- What goes round. -/
structure RotC (w : World) (rb sv : Nat) (X : List ST) (s : CP) (U V : List ST) : Prop where
  mem : ∀ x ∈ U ++ V, x ∈ X
  rot : rotA s.last [] s.l = (U ++ V).map tcS
  chn : Chn w (sv :: (blS U ++ rb :: blS V))
  lst : (blS U ++ rb :: blS V).getLast? = some sv
  nod : (blS U ++ rb :: blS V).Nodup
  svm : sv ∈ rb :: blS X
theorem CI.rot (h : CI w B qb rb mb sv X s) (ho : s.ok) : ∃ U V, RotC w rb sv X s U V := by
  have hnr := h.nodR
  have hno : ∀ l : List (Tg × Nat), s.l = l → ∀ y ∈ l, y.1 ≠ [] := fun l e y hy => (ho.tags y (by rw [e]; exact hy)).1
  rcases h.srv with ⟨h1, h2⟩ | ⟨x, hx, h1, h2⟩
  · refine ⟨X, [], by simp, ?_, ?_, ?_, ?_, by rw [h2]; simp⟩
    · rw [h1, rotA_none (hno _ rfl), h.row]; simp
    · rw [h2]; exact h.link
    · rw [h2]; simp [blS]
    · rw [show blS [] = [] from rfl, List.nodup_append]
      refine ⟨h.nod, by simp, fun a ha b hb e => ?_⟩
      simp at hb; subst hb; subst e
      exact (List.nodup_cons.1 hnr).1 ha
  · obtain ⟨A, D, rfl⟩ := List.append_of_mem hx
    have hn := ho.nod
    rw [h.row, List.map_append, List.map_cons] at hn
    have hl := h.link
    have eb : blS (A ++ x :: D) = blS A ++ x.b :: blS D := by simp [blS]
    rw [eb, show rb :: (blS A ++ x.b :: blS D ++ [rb]) = (rb :: blS A) ++ x.b :: (blS D ++ [rb]) by simp, Chn.append] at hl
    rw [eb] at hnr
    refine ⟨D, A ++ [x], fun y hy => ?_, ?_, ?_, ?_, ?_, ?_⟩
    · simp at hy ⊢; rcases hy with h | h | h <;> simp [h]
    · rw [← h1, h.row, List.map_append, List.map_cons, show x.t = (tcS x).1 from rfl, rotA_mid (mid_nodup hn).1]
      simp
    · rw [h2]
      have e1 : x.b :: (blS D ++ rb :: blS (A ++ [x])) = (x.b :: blS D) ++ rb :: (blS A ++ [x.b]) := by simp [blS]
      rw [e1, Chn.append]
      exact ⟨by simpa using hl.2, by simpa using hl.1⟩
    · rw [h2]; simp [blS, List.getLast?_append, List.getLast?_cons]
    · have e1 : blS D ++ rb :: blS (A ++ [x]) = blS D ++ ((rb :: blS A) ++ [x.b]) := by simp [blS]
      rw [e1]
      have e2 : (rb :: (blS A ++ x.b :: blS D)).Perm (blS D ++ ((rb :: blS A) ++ [x.b])) := by
        have : rb :: (blS A ++ x.b :: blS D) = ((rb :: blS A) ++ [x.b]) ++ blS D := by simp
        rw [this]
        exact List.perm_append_comm
      exact e2.nodup_iff.1 hnr
    · rw [h2, eb]; simp
/-- The path, element by element. -/
def pathX (X U V : List ST) (h : ∀ x ∈ U ++ V, x ∈ X) : List (Option { x : ST // x ∈ X }) := (attX X U (fun x hx => h x (by simp [hx]))).map some ++ none :: (attX X V (fun x hx => h x (by simp [hx]))).map some
def blX (X : List ST) (x : { x : ST // x ∈ X }) : Nat := x.1.b
theorem pathX_nb {U V : List ST} (h : ∀ x ∈ U ++ V, x ∈ X) : (pathX X U V h).map (nbO rb (blX X)) = blS U ++ rb :: blS V := by
  unfold pathX
  have e : ∀ L (hL : ∀ x ∈ L, x ∈ X), ((attX X L hL).map some).map (nbO rb (blX X)) = blS L := fun L hL => by
    have e2 : blS ((attX X L hL).map (·.1)) = blS L := by rw [attX_val hL]
    rw [← e2, List.map_map]
    unfold blS
    rw [List.map_map]
    rfl
  rw [List.map_append, List.map_cons, e, e]
  rfl
theorem pathX_el {U V : List ST} (h : ∀ x ∈ U ++ V, x ∈ X) : (pathX X U V h).filterMap id = attX X (U ++ V) h := by
  unfold pathX
  rw [attX_append]
  simp [List.filterMap_append, List.filterMap_map]
theorem pathX_len {U V : List ST} (h : ∀ x ∈ U ++ V, x ∈ X) : (pathX X U V h).length = U.length + V.length + 1 := by
  unfold pathX attX
  simp
  omega
theorem CI.stopsK {U V : List ST} {s0 gb xb : Nat} {K : Nat → Prop} (n : Nat) (h : CI w B qb rb mb sv X s) {s2 : CP} (hrot : RotC w rb s0 X s2 U V) (hN : ∀ k, K k → k < w.heap.size) (hKn : ∀ a ∈ rb :: blS X, K a) (cg : w.cell? ⟨gb, 0, none⟩ = some (nodeV rb)) (cx : w.cell? ⟨xb, 0, none⟩ = some (nodeV s0)) (hg : K gb) (hx : K xb) :
    SeqStopsK Fence.wide n Try.prog 36 #[.pointer (some ⟨xb, 0, none⟩), .pointer (some ⟨gb, 0, none⟩)] (fun a => #[nodeV (blX X a)]) (KeepK K) (fun xs => xs = attX X (U ++ V) hrot.mem) (fun pre => pre <+: attX X (U ++ V) hrot.mem) (U.length + V.length + 1) w := by
  have hmem : ∀ a ∈ blS U ++ rb :: blS V, a ∈ rb :: blS X := fun a ha => by
    simp only [List.mem_append, List.mem_cons] at ha
    rcases ha with ha | rfl | ha
    · obtain ⟨y, hy, rfl⟩ := List.mem_map.1 ha
      exact List.mem_cons_of_mem _ (List.mem_map.2 ⟨y, hrot.mem y (by simp [hy]), rfl⟩)
    · simp
    · obtain ⟨y, hy, rfl⟩ := List.mem_map.1 ha
      exact List.mem_cons_of_mem _ (List.mem_map.2 ⟨y, hrot.mem y (by simp [hy]), rfl⟩)
  have := behind1_stops (α := { x : ST // x ∈ X }) n w K rb s0 gb xb (blX X) (pathX X U V hrot.mem) (by rw [pathX_nb]; exact hrot.chn) (by rw [pathX_nb]; exact hrot.lst) (by rw [pathX_nb]; exact hrot.nod)
    (fun a ha => by
      rw [pathX_nb] at ha
      rcases List.mem_cons.1 ha with rfl | ha
      · exact hKn _ hrot.svm
      · exact hKn _ (hmem a ha)) (hKn rb (by simp)) hg hx
    (fun a ha => by
      rw [pathX_nb] at ha
      rcases List.mem_cons.1 ha with rfl | ha
      · exact (h.node (a := a) (by simp)).node
      · rcases List.mem_cons.1 ha with rfl | ha
        · exact (h.node hrot.svm).node
        · exact (h.node (hmem a ha)).node) hN
    (fun a ha => (h.seat a.1 a.2).neRing h.ring) cg cx
  rw [pathX_el, pathX_len] at this
  exact this
theorem CI.stops {U V : List ST} {s0 gb xb N : Nat} (n : Nat) (h : CI w B qb rb mb sv X s) (hrot : RotC w rb s0 X s U V) (hN : w.heap.size = N) (cg : w.cell? ⟨gb, 0, none⟩ = some (nodeV rb)) (cx : w.cell? ⟨xb, 0, none⟩ = some (nodeV s0)) (hg : gb < N) (hx : xb < N) :
    SeqStopsK Fence.wide n Try.prog 36 #[.pointer (some ⟨xb, 0, none⟩), .pointer (some ⟨gb, 0, none⟩)] (fun a => #[nodeV (blX X a)]) (KeepK (fun k => k < N)) (fun xs => xs = attX X (U ++ V) hrot.mem) (fun pre => pre <+: attX X (U ++ V) hrot.mem) (U.length + V.length + 1) w :=
  h.stopsK n hrot (fun k hk => by rw [hN]; exact hk) (fun a ha => by show a < N; rw [← hN]; exact (h.node ha).lt) cg cx hg hx
end

end Go.Proofs.Ytknfiiacalfelaa
