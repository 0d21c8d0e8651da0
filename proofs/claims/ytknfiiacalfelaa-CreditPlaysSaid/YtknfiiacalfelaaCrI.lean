/-
  The ring's iterator: behind, and the function that it makes.
  Conditions: none but sizes.
-/
import Derived.Test.YtknfiiacalfelaaCrE
import Derived.RangeFuncNested
import Derived.RangeFuncBound
import Derived.RangeFuncCalls
import Derived.RangeFuncLeaves
import Derived.Shelf.RegionOpen
import Derived.OwnWalkIn
import Derived.TacticsInMore
import Derived.LoopNIn
import Derived.LoopIn
namespace Go.Proofs.Ytknfiiacalfelaa
open Go.RowKit Go.Shelf
set_option linter.unusedVariables false
set_option linter.unusedSimpArgs false
set_option maxRecDepth 100000

theorem behind_any (g s : Nat) (w : World) : Calls Try.prog 31 #[.pointer (some ⟨g, 0, none⟩), .pointer (some ⟨s, 0, none⟩)] w fun e w' =>
    e = .returned (.func (.func 36) #[] #[.pointer (some ⟨w.heap.size + 1, 0, none⟩), .pointer (some ⟨w.heap.size, 0, none⟩)]) ∧ w' = (w.alloc (.cells #[nodeV g] 52)).alloc (.cells #[nodeV s] 59) := by
  unfold nodeV
  go_enter Try.func31, Try.ntmps31
  go_wp2_with fail
  go_ret
  exact ⟨rfl, rfl⟩

/-- The blocks of K are as they were. -/
def KeepK (K : Nat → Prop) (w w' : World) : Prop := ∀ k, K k → w'.heap[k]? = w.heap[k]?
theorem keepK_t {K : Nat → Prop} {a b c : World} (h : KeepK K a b) (h2 : KeepK K b c) : KeepK K a c := fun k hk => (h2 k hk).trans (h k hk)
theorem keepK_b {K : Nat → Prop} {w : World} (hn : ∀ k, K k → k < w.heap.size) (W : World) (l : Nat) (o o' : Obj) (hl : w.heap.size ≤ l) (h : W.heap[l]? = some o) (_ : o.isCells = false) (_ : o.isWalk = false) : KeepK K W (W.putObj l o') :=
  fun k hk => World.putObj_heap_other (by have := hn k hk; omega)
def blkV : Value → Nat
  | .pointer (some a) => a.block
  | _ => 0
section
variable {α : Type}
/-- A step's node: the start, or an element's. -/
def nbO (rb : Nat) (bl : α → Nat) : Option α → Nat
  | none => rb
  | some a => bl a
theorem idx_mid {l : List Nat} {a : Nat} {r : List Nat} (hn : (l ++ a :: r).Nodup) : (l ++ a :: r).length - (l ++ a :: r).idxOf a = r.length + 1 := by
  have : a ∉ l := fun h => by
    rw [List.nodup_append] at hn
    exact hn.2.2 a h a (by simp) rfl
  have e : (l ++ a :: r).idxOf a = l.length := by rw [List.idxOf_append, if_neg this, List.idxOf_cons_self, Nat.zero_add]
  rw [e]
  simp only [List.length_append, List.length_cons]
  omega

set_option maxHeartbeats 4000000 in
theorem behind1_stops (n : Nat) (w0 : World) (K : Nat → Prop) (rb s gb xb : Nat) (bl : α → Nat) (P : List (Option α)) (hc : Chn w0 (s :: P.map (nbO rb bl))) (hl : (P.map (nbO rb bl)).getLast? = some s) (hn : (P.map (nbO rb bl)).Nodup)
    (hk : ∀ a ∈ s :: P.map (nbO rb bl), K a) (hr : K rb) (hg : K gb) (hx : K xb) (hnode : ∀ a ∈ rb :: s :: P.map (nbO rb bl), IsNode w0 a) (hK : ∀ k, K k → k < w0.heap.size) (hbl : ∀ a, some a ∈ P → bl a ≠ rb)
    (cg : w0.cell? ⟨gb, 0, none⟩ = some (nodeV rb)) (cx : w0.cell? ⟨xb, 0, none⟩ = some (nodeV s)) :
    SeqStopsK Fence.wide n Try.prog 36 #[.pointer (some ⟨xb, 0, none⟩), .pointer (some ⟨gb, 0, none⟩)] (fun a => #[nodeV (bl a)]) (KeepK K) (fun xs => xs = P.filterMap id) (fun pre => pre <+: P.filterMap id) P.length w0 := by
  intro l J Jx W hW hJ hJx hY h0
  have hW0 : ∀ k, K k → W.heap[k]? = w0.heap[k]? := fun k hk => hW.block k (hK k hk)
  cases P with
  | nil => simp at hl
  | cons o0 P0 =>
  have c0 : W.cell? ⟨xb, 0, none⟩ = some (nodeV s) := (cell_keepH (hW0 xb hx)).trans cx
  have c1 : W.cell? ⟨s, 3, none⟩ = some (nodeV (nbO rb bl o0)) := (cell_keepH (hW0 s (hk s (by simp)))).trans hc.1.1
  have HC := Lib.hid hc
  have HY := Lib.hid hY
  have HN := Lib.hid hn
  have HL := Lib.hid hl
  have HK := Lib.hid hk
  have HNODE := Lib.hid hnode
  have HW0 := Lib.hid hW0
  have H0 := Lib.hid h0
  clear hY hn hl hk hnode hc hW0 h0 hJ hJx
  refine callsIn_of_wp Try.func36 rfl trivial ?_ rfl
  simp only [Try.ntmps36, List.size_toArray, List.length_cons, List.length_nil, Nat.reduceAdd, Nat.reduceSub, Array.replicate_succ, Array.replicate_zero, List.push_toArray, List.append_toArray, List.nil_append, List.cons_append]
  unfold nodeV at c0 c1
  gi_wp2
  gi_loopw [4] (fun p wr => ∃ (done : List (Option α)) (o : Option α) (rest : List (Option α)), p = nodeV (nbO rb bl o) ∧ o0 :: P0 = done ++ o :: rest ∧ Hid (KeepK K w0 wr) ∧ J (done.filterMap id) wr) (fun p wr => (o0 :: P0).length - ((o0 :: P0).map (nbO rb bl)).idxOf (blkV p))
  case atStart => exact ⟨[], o0, P0, rfl, rfl, HW0, H0.out⟩
  case round =>
    rename World => wr
    obtain ⟨done, o, rest, rfl, hP, hkr, hJr⟩ := hrel
    have hPn : (o0 :: P0).map (nbO rb bl) = done.map (nbO rb bl) ++ nbO rb bl o :: rest.map (nbO rb bl) := by rw [hP]; simp
    have hmem : nbO rb bl o ∈ (o0 :: P0).map (nbO rb bl) := by rw [hPn]; simp
    have hlen : (done.filterMap id).length < (o0 :: P0).length := by
      have := List.length_filterMap_le id done
      rw [hP]; simp; omega
    -- what holds in any later world of the round
    have HW : Hid (∀ W', KeepK K w0 W' → W'.cell? ⟨xb, 0, none⟩ = some (.pointer (some ⟨s, 0, none⟩)) ∧ W'.cell? ⟨gb, 0, none⟩ = some (.pointer (some ⟨rb, 0, none⟩)) ∧ IsNode W' rb ∧ IsNode W' s ∧ IsNode W' (nbO rb bl o)) := Lib.hid fun W' hkk => by
      have hnk : ∀ a, a ∈ rb :: s :: (o0 :: P0).map (nbO rb bl) → IsNode W' a := fun a ha => by
        obtain ⟨c, ty, h⟩ := HNODE.out a ha
        refine ⟨c, ty, (hkk a ?_).trans h⟩
        rcases List.mem_cons.1 ha with rfl | ha
        · exact hr
        · exact HK.out a ha
      exact ⟨(cell_keepH (hkk xb hx)).trans cx, (cell_keepH (hkk gb hg)).trans cg, hnk rb (by simp), hnk s (by simp), hnk _ (by simp only [List.mem_cons]; exact .inr (.inr (by simpa using hmem)))⟩
    obtain ⟨a1, a2, a3, a4, a5⟩ := HW.out wr hkr.out
    have HEND : Hid (rest = [] → nbO rb bl o = s ∧ (o0 :: P0).filterMap id = (done ++ [o]).filterMap id) := Lib.hid fun h => by
      subst h
      refine ⟨?_, by rw [hP]⟩
      have := HL.out
      rw [hPn] at this
      simpa using this
    have HNEXT : Hid (∀ o1 r, rest = o1 :: r → nbO rb bl o ≠ s ∧ (o0 :: P0 = (done ++ [o]) ++ o1 :: r) ∧ ∀ W', KeepK K w0 W' → W'.cell? ⟨nbO rb bl o, 3, none⟩ = some (.pointer (some ⟨nbO rb bl o1, 0, none⟩))) := Lib.hid fun o1 r h => by
      subst h
      refine ⟨fun e => ?_, by rw [hP]; simp, fun W' hkk => ?_⟩
      · have h1 := HL.out
        have h2 := HN.out
        rw [hPn] at h1 h2
        rw [List.nodup_append] at h2
        have h3 := (List.nodup_cons.1 h2.2.1).1
        rw [List.getLast?_append, List.getLast?_cons] at h1
        simp at h1
        apply h3
        rw [e, ← h1]
        exact List.getLast_mem (by simp)
      · have h1 := HC.out
        rw [hPn, show s :: (done.map (nbO rb bl) ++ nbO rb bl o :: (o1 :: r).map (nbO rb bl)) = (s :: done.map (nbO rb bl)) ++ nbO rb bl o :: (nbO rb bl o1 :: r.map (nbO rb bl)) by simp, Chn.append] at h1
        exact (cell_keepH (hkk _ (HK.out _ (List.mem_cons_of_mem _ hmem)))).trans h1.2.1.1
    have HMEAS : Hid ((o0 :: P0).length - ((o0 :: P0).map (nbO rb bl)).idxOf (nbO rb bl o) = rest.length + 1) := Lib.hid (by
      have h2 := HN.out
      rw [hPn] at h2
      have := idx_mid h2
      rw [← hPn] at this
      simpa using this)
    have HMEAS2 : Hid (∀ o1 r, rest = o1 :: r → (o0 :: P0).length - ((o0 :: P0).map (nbO rb bl)).idxOf (nbO rb bl o1) = r.length + 1) := Lib.hid fun o1 r h => by
      subst h
      have h2 := HN.out
      have e : (o0 :: P0).map (nbO rb bl) = (done ++ [o]).map (nbO rb bl) ++ nbO rb bl o1 :: r.map (nbO rb bl) := by rw [hP]; simp
      rw [e] at h2
      have := idx_mid h2
      rw [← e] at this
      simpa using this
    cases o with
    | none =>
      have q1 := node_neq wr rb
      change Hid (rest = [] → rb = s ∧ _) at HEND
      change Hid (∀ o1 r, rest = o1 :: r → rb ≠ s ∧ _ ∧ ∀ W', KeepK K w0 W' → W'.cell? ⟨rb, 3, none⟩ = _) at HNEXT
      cases rest with
      | nil =>
        obtain ⟨e1, e2⟩ := HEND.out rfl
        have q2 := node_eql wr rb
        rw [← e1] at a1
        have HFIN := Lib.hid (show J ((o0 :: P0).filterMap id) wr from by rw [e2]; simpa using hJr)
        have hb0 : nbO rb bl none = rb := rfl
        rw [hb0]
        unfold nodeV at *
        clear HW HEND HNEXT HMEAS HMEAS2 hPn hmem hlen hP e1 e2
        gi_wp2
        refine ⟨fun _ h => (by cases h), ?_⟩
        gi_wp2
        refine bodyPost_ret (results_none rfl _ _ _) rfl ?_
        exact ⟨⟨_, rfl⟩, .inl ⟨_, rfl, HFIN.out⟩⟩
      | cons o1 r =>
        obtain ⟨e1, e2, e3⟩ := HNEXT.out o1 r rfl
        have q2 := node_eql_ne a3 a4 e1
        have a6 := e3 wr hkr.out
        have hM : Hid (r.length + 1 < (o1 :: r).length + 1) := Lib.hid (by simp)
        have HM1 := HMEAS.out
        have HM2 := HMEAS2.out o1 r rfl
        have HJ2 := Lib.hid (show J ((done ++ [none]).filterMap id) wr from by simpa using hJr)
        have hb0 : nbO rb bl none = rb := rfl
        have HM3 : Hid ((o0 :: P0).length - ((o0 :: P0).map (nbO rb bl)).idxOf (blkV (nodeV (nbO rb bl o1))) < (o0 :: P0).length - ((o0 :: P0).map (nbO rb bl)).idxOf (blkV (nodeV (nbO rb bl none)))) := Lib.hid (by
          show (o0 :: P0).length - ((o0 :: P0).map (nbO rb bl)).idxOf (nbO rb bl o1) < (o0 :: P0).length - ((o0 :: P0).map (nbO rb bl)).idxOf (nbO rb bl none)
          rw [HM1, HM2]; simp)
        have HE2 := Lib.hid e2
        rw [hb0] at HM3 ⊢
        unfold nodeV at *
        clear HW HEND HNEXT HMEAS HMEAS2 hPn hmem hlen hP e1 e2 e3 HM1 HM2 hM hJr
        gi_wp2
        refine ⟨fun _ h => (by cases h), ?_⟩
        gi_wp2
        go_roundw
        case rel => exact ⟨done ++ [none], o1, r, rfl, HE2.out, hkr, HJ2.out⟩
        case measure => exact HM3.out
    | some a =>
      have hba : bl a ≠ rb := hbl a (by rw [hP]; simp)
      have q1 : (binOp .neq 59 (nodeV (bl a)) (nodeV rb)).run Try.prog wr = .ok (.bool true) wr := node_neq_ne a5 a3 hba
      obtain ⟨fn, tmps, assign, body, hy, hR⟩ := HY.out (done.filterMap id) a wr hJr hlen

      change Hid (rest = [] → bl a = s ∧ _) at HEND
      change Hid (∀ o1 r, rest = o1 :: r → bl a ≠ s ∧ _ ∧ ∀ W', KeepK K w0 W' → W'.cell? ⟨bl a, 3, none⟩ = _) at HNEXT
      have HKR := fun W' (h : KeepK K wr W') => Lib.hid (keepK_t hkr.out h)
      have HKR := Lib.hid HKR
      have HJX : Hid (∀ W3, Jx (done.filterMap id ++ [a]) W3 → ∃ pre, pre <+: (o0 :: P0).filterMap id ∧ Jx pre W3) := Lib.hid fun W3 h => ⟨_, ⟨rest.filterMap id, by rw [hP]; simp⟩, h⟩
      have hb0 : nbO rb bl (some a) = bl a := rfl
      rw [hb0] at a5 ⊢
      unfold nodeV at q1 hy ⊢
      clear hPn hmem hlen hJr
      cases rest with
      | nil =>
        obtain ⟨e1, e2⟩ := HEND.out rfl
        have HA : Hid (∀ W', KeepK K w0 W' → W'.cell? ⟨xb, 0, none⟩ = some (.pointer (some ⟨bl a, 0, none⟩))) := Lib.hid fun W' h => by rw [e1]; exact (HW.out W' h).1
        have HFIN : Hid (∀ W3, J (done.filterMap id ++ [a]) W3 → J ((o0 :: P0).filterMap id) W3) := Lib.hid fun W3 h => by rw [e2]; simpa using h
        clear HW HEND HNEXT HMEAS HMEAS2 hP e1 e2 a1
        gi_wp2
        refine ⟨fun h => absurd h (by decide), hR.mono ?_⟩
        rintro e W3 (⟨rfl, hJ3, hk3⟩ | ⟨rfl, hJx3⟩)
        · have a1 := HA.out W3 (HKR.out W3 hk3).out
          have q2 := node_eql W3 (bl a)
          unfold nodeV at q2
          gi_wp2
          refine bodyPost_ret (results_none rfl _ _ _) rfl ?_
          exact ⟨⟨_, rfl⟩, .inl ⟨_, rfl, HFIN.out _ hJ3⟩⟩
        · gi_wp2
          refine bodyPost_ret (results_none rfl _ _ _) rfl ?_
          exact ⟨⟨_, rfl⟩, .inr (HJX.out _ hJx3)⟩
      | cons o1 r =>
        obtain ⟨e1, e2, e3⟩ := HNEXT.out o1 r rfl
        have HM1 := HMEAS.out
        have HM2 := HMEAS2.out o1 r rfl
        have HM3 : Hid ((o0 :: P0).length - ((o0 :: P0).map (nbO rb bl)).idxOf (blkV (.pointer (some ⟨nbO rb bl o1, 0, none⟩))) < (o0 :: P0).length - ((o0 :: P0).map (nbO rb bl)).idxOf (blkV (.pointer (some ⟨bl a, 0, none⟩)))) := Lib.hid (by
          show (o0 :: P0).length - ((o0 :: P0).map (nbO rb bl)).idxOf (nbO rb bl o1) < (o0 :: P0).length - ((o0 :: P0).map (nbO rb bl)).idxOf (nbO rb bl (some a))
          rw [HM1, HM2]; simp)
        have HE2 := Lib.hid e2
        have HA : Hid (∀ W', KeepK K w0 W' → W'.cell? ⟨xb, 0, none⟩ = some (.pointer (some ⟨s, 0, none⟩)) ∧ (binOp .eql 59 (nodeV (bl a)) (nodeV s)).run Try.prog W' = .ok (.bool false) W' ∧ W'.cell? ⟨bl a, 3, none⟩ = some (.pointer (some ⟨nbO rb bl o1, 0, none⟩))) := Lib.hid fun W' h => by
          obtain ⟨b1, _, _, b4, b5⟩ := HW.out W' h
          exact ⟨b1, node_eql_ne b5 b4 e1, e3 W' h⟩
        unfold nodeV at HA
        clear HW HEND HNEXT HMEAS HMEAS2 hP e1 e2 e3 a1 HM1 HM2
        gi_wp2
        refine ⟨fun h => absurd h (by decide), hR.mono ?_⟩
        rintro e W3 (⟨rfl, hJ3, hk3⟩ | ⟨rfl, hJx3⟩)
        · obtain ⟨b1, q2, b3⟩ := HA.out W3 (HKR.out W3 hk3).out
          gi_wp2
          go_roundw
          case rel => exact ⟨done ++ [some a], o1, r, rfl, HE2.out, HKR.out W3 hk3, by simpa using hJ3⟩
          case measure => exact HM3.out
        · gi_wp2
          refine bodyPost_ret (results_none rfl _ _ _) rfl ?_
          exact ⟨⟨_, rfl⟩, .inr (HJX.out _ hJx3)⟩
end

end Go.Proofs.Ytknfiiacalfelaa
