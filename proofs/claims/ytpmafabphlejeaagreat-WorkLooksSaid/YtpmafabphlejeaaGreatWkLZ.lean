/-
  Texts, together: WkL, WkN, WkQ, WkV.
  Conditions: none but sizes.
-/
import Derived.Shelf.SlIter.Nil
import Derived.Shelf.SortM.Plain
import Derived.Shelf.SortM.SortNone
import Derived.Test.YtpmafabphlejeaaGreatMemZ
import Derived.Sort.Walk0
import Derived.Test.YtpmafabphlejeaaGreatWkPZ
import Derived.Test.YtpmafabphlejeaaGreatWkEZ
import Derived.Test.YtpmafabphlejeaaGreatWkSZ
/-
  The library's own functions, laid at this program.
  Conditions: none.
-/
namespace Go.Proofs.YtpmafabphlejeaaGreat
open Go.Proofs Go.Shelf
def w_keys_ren : Go.Shelf.Ren := ⟨fun | 7 => 52 | 10 => 75 | n => n, fun | 23 => 91 | 26 => 9 | 3 => 92 | 28 => 95 | 0 => 0 | 27 => 94 | 33 => 101 | 4 => 4 | n => n, fun | n => n⟩
theorem w_keys : Go.Proofs.SlLaysZ.n7 Tryz.prog w_keys_ren := {
  mixed := by kernel_rfl
  f7 := ⟨Tryz.f52.name, by decide, Tryz.func52.trans (congrArg some (by kernel_rfl))⟩
  f10 := ⟨Tryz.f75.name, by decide, Tryz.func75.trans (congrArg some (by kernel_rfl))⟩
  t0 := Tryz.underlying0
  a0 := Tryz.isAgg0
  z0 := Tryz.sizeOf0
  v0 := Tryz.zeroValue0
  t4 := Tryz.underlying4
  a4 := Tryz.isAgg4
  z4 := Tryz.sizeOf4
  v4 := Tryz.zeroValue4
  t23 := Tryz.underlying91
  a23 := Tryz.isAgg91
  z23 := Tryz.sizeOf91
  v23 := Tryz.zeroValue91
  t26 := Tryz.underlying9
  a26 := Tryz.isAgg9
  z26 := Tryz.sizeOf9
  v26 := Tryz.zeroValue9
  t27 := Tryz.underlying94
  a27 := Tryz.isAgg94
  z27 := Tryz.sizeOf94
  v27 := Tryz.zeroValue94
  t28 := Tryz.underlying95
  a28 := Tryz.isAgg95
  z28 := Tryz.sizeOf95
  v28 := Tryz.zeroValue95
  t33 := Tryz.underlying101
  a33 := Tryz.isAgg101
  z33 := Tryz.sizeOf101
  v33 := Tryz.zeroValue101 }
def w_sorted_ren : Go.Shelf.Ren := ⟨fun | 6 => 51 | 8 => 73 | 9 => 74 | 11 => 90 | 13 => 92 | 12 => 91 | 23 => 113 | 24 => 114 | 14 => 104 | 15 => 105 | 16 => 106 | 17 => 107 | 18 => 108 | 19 => 109 | 20 => 110 | 21 => 111 | 22 => 112 | 25 => 126 | 26 => 127 | 27 => 128 | 28 => 129 | 29 => 130 | 30 => 131 | 31 => 141 | n => n, fun | 26 => 9 | 28 => 95 | 24 => 28 | 0 => 0 | 3 => 3 | 37 => 126 | 48 => 53 | 50 => 26 | 4 => 4 | 40 => 142 | 39 => 141 | 45 => 147 | 5 => 5 | 9 => 9 | 51 => 162 | 55 => 166 | 57 => 173 | 58 => 174 | 33 => 101 | n => n, fun | n => n⟩
theorem w_sorted : Go.Proofs.SlLaysZ.n6 Tryz.prog w_sorted_ren := {
  mixed := by kernel_rfl
  f6 := ⟨Tryz.f51.name, by decide, Tryz.func51.trans (congrArg some (by kernel_rfl))⟩
  f8 := ⟨Tryz.f73.name, by decide, Tryz.func73.trans (congrArg some (by kernel_rfl))⟩
  f11 := ⟨Tryz.f90.name, by decide, Tryz.func90.trans (congrArg some (by kernel_rfl))⟩
  t0 := Tryz.underlying0
  a0 := Tryz.isAgg0
  z0 := Tryz.sizeOf0
  v0 := Tryz.zeroValue0
  t24 := Tryz.underlying28
  a24 := Tryz.isAgg28
  z24 := Tryz.sizeOf28
  v24 := Tryz.zeroValue28
  t26 := Tryz.underlying9
  a26 := Tryz.isAgg9
  z26 := Tryz.sizeOf9
  v26 := Tryz.zeroValue9
  t28 := Tryz.underlying95
  a28 := Tryz.isAgg95
  z28 := Tryz.sizeOf95
  v28 := Tryz.zeroValue95
  i26 := by kernel_rfl }
def w_sort_ren : Go.Shelf.Ren := ⟨fun | 6 => 74 | 8 => 92 | 9 => 91 | 19 => 113 | 20 => 114 | 21 => 104 | 22 => 105 | 23 => 106 | 24 => 107 | 25 => 108 | 26 => 109 | 27 => 110 | 28 => 111 | 29 => 112 | 36 => 126 | 31 => 127 | 32 => 128 | 37 => 129 | 38 => 130 | 39 => 131 | 41 => 141 | n => n, fun | 27 => 28 | 29 => 9 | 3 => 3 | 32 => 126 | 26 => 28 | 0 => 0 | 44 => 53 | 46 => 26 | 4 => 4 | 36 => 142 | 35 => 141 | 41 => 147 | 5 => 5 | 9 => 9 | 53 => 162 | 57 => 166 | 63 => 173 | 64 => 174 | n => n, fun | n => n⟩
theorem w_sort : Go.Proofs.SlLaysM.n6 Tryz.prog w_sort_ren := {
  mixed := by kernel_rfl
  f6 := ⟨Tryz.f74.name, by decide, Tryz.func74.trans (congrArg some (by kernel_rfl))⟩
  f8 := Tryz.func92.trans (congrArg some (by kernel_rfl))
  f9 := ⟨Tryz.f91.name, by decide, Tryz.func91.trans (congrArg some (by kernel_rfl))⟩
  f19 := Tryz.func113.trans (congrArg some (by kernel_rfl))
  f20 := Tryz.func114.trans (congrArg some (by kernel_rfl))
  f21 := ⟨Tryz.f104.name, by decide, Tryz.func104.trans (congrArg some (by kernel_rfl))⟩
  f22 := ⟨Tryz.f105.name, by decide, Tryz.func105.trans (congrArg some (by kernel_rfl))⟩
  f23 := ⟨Tryz.f106.name, by decide, Tryz.func106.trans (congrArg some (by kernel_rfl))⟩
  f24 := ⟨Tryz.f107.name, by decide, Tryz.func107.trans (congrArg some (by kernel_rfl))⟩
  f25 := ⟨Tryz.f108.name, by decide, Tryz.func108.trans (congrArg some (by kernel_rfl))⟩
  f26 := ⟨Tryz.f109.name, by decide, Tryz.func109.trans (congrArg some (by kernel_rfl))⟩
  f27 := ⟨Tryz.f110.name, by decide, Tryz.func110.trans (congrArg some (by kernel_rfl))⟩
  f28 := ⟨Tryz.f111.name, by decide, Tryz.func111.trans (congrArg some (by kernel_rfl))⟩
  f29 := ⟨Tryz.f112.name, by decide, Tryz.func112.trans (congrArg some (by kernel_rfl))⟩
  f31 := Tryz.func127.trans (congrArg some (by kernel_rfl))
  f32 := Tryz.func128.trans (congrArg some (by kernel_rfl))
  f36 := ⟨Tryz.f126.name, by decide, Tryz.func126.trans (congrArg some (by kernel_rfl))⟩
  f37 := ⟨Tryz.f129.name, by decide, Tryz.func129.trans (congrArg some (by kernel_rfl))⟩
  f38 := ⟨Tryz.f130.name, by decide, Tryz.func130.trans (congrArg some (by kernel_rfl))⟩
  f39 := ⟨Tryz.f131.name, by decide, Tryz.func131.trans (congrArg some (by kernel_rfl))⟩
  f41 := ⟨Tryz.f141.name, by decide, Tryz.func141.trans (congrArg some (by kernel_rfl))⟩
  t0 := Tryz.underlying0
  a0 := Tryz.isAgg0
  z0 := Tryz.sizeOf0
  v0 := Tryz.zeroValue0
  t3 := Tryz.underlying3
  a3 := Tryz.isAgg3
  z3 := Tryz.sizeOf3
  v3 := Tryz.zeroValue3
  t4 := Tryz.underlying4
  a4 := Tryz.isAgg4
  z4 := Tryz.sizeOf4
  v4 := Tryz.zeroValue4
  t5 := Tryz.underlying5
  a5 := Tryz.isAgg5
  z5 := Tryz.sizeOf5
  v5 := Tryz.zeroValue5
  t9 := Tryz.underlying9
  a9 := Tryz.isAgg9
  z9 := Tryz.sizeOf9
  v9 := Tryz.zeroValue9
  t26 := Tryz.underlying28
  a26 := Tryz.isAgg28
  z26 := Tryz.sizeOf28
  v26 := Tryz.zeroValue28
  t27 := Tryz.underlying28
  a27 := Tryz.isAgg28
  z27 := Tryz.sizeOf28
  v27 := Tryz.zeroValue28
  t29 := Tryz.underlying9
  a29 := Tryz.isAgg9
  z29 := Tryz.sizeOf9
  v29 := Tryz.zeroValue9
  t32 := Tryz.underlying126
  a32 := Tryz.isAgg126
  z32 := Tryz.sizeOf126
  v32 := Tryz.zeroValue126
  t35 := Tryz.underlying141
  a35 := Tryz.isAgg141
  z35 := Tryz.sizeOf141
  v35 := Tryz.zeroValue141
  t36 := Tryz.underlying142
  a36 := Tryz.isAgg142
  z36 := Tryz.sizeOf142
  v36 := Tryz.zeroValue142
  t41 := Tryz.underlying147
  a41 := Tryz.isAgg147
  z41 := Tryz.sizeOf147
  v41 := Tryz.zeroValue147
  t44 := Tryz.underlying53
  a44 := Tryz.isAgg53
  z44 := Tryz.sizeOf53
  v44 := Tryz.zeroValue53
  t46 := Tryz.underlying26
  a46 := Tryz.isAgg26
  z46 := Tryz.sizeOf26
  v46 := Tryz.zeroValue26
  t53 := Tryz.underlying162
  a53 := Tryz.isAgg162
  z53 := Tryz.sizeOf162
  v53 := Tryz.zeroValue162
  t57 := Tryz.underlying166
  a57 := Tryz.isAgg166
  z57 := Tryz.sizeOf166
  v57 := Tryz.zeroValue166
  t63 := Tryz.underlying173
  a63 := Tryz.isAgg173
  z63 := Tryz.sizeOf173
  v63 := Tryz.zeroValue173
  t64 := Tryz.underlying174
  a64 := Tryz.isAgg174
  z64 := Tryz.sizeOf174
  v64 := Tryz.zeroValue174 }

open Go.RowKit Go.Maps Go.Sort
theorem w_sorts (m : Nat) : AnyZ.SortsIn Tryz.prog w_sorted_ren Fence.wide m :=
  ⟨fun blk off cap ss W hH hblk hsz => callsIn_wide.2 (AnyM.slices_Sort_string w_sort blk off cap ss W hH hblk hsz), fun p cap W => callsIn_wide.2 (AnyM.slices_Sort_string_none w_sort p cap W)⟩
/-- maps.Keys at whatever map. -/
theorem w_keys_any (mb : Option Nat) (W : World) : Calls Tryz.prog 52 #[.map mb] W fun e w' => e = .returned (.func (.func 75) #[] #[.pointer (some ⟨W.heap.size, 0, none⟩)]) ∧ w' = W.alloc (.cells #[.map mb] 91) :=
  (callsIn_wide (n := 5)).1 (AnyZ.keys_in w_keys Fence.wide 5 trivial rfl mb W)
set_option maxHeartbeats 1000000 in
/-- slices.Sorted at what it handed back: the map's keys in order. -/
theorem w_sorted_any {H : Type} (b nn : Nat) (D0 : DataW H) (R : Value → Option (DataW H × List MemPlace)) (w : World) (hown : w.ownsMap Tryz.prog 9 R b nn D0) (hmax : Maps.size D0 ≤ maxLen) (hbytes : Maps.size D0 * 16 ≤ 140737488355328) :
    Calls Tryz.prog 51 #[.func (.func 75) #[] #[.pointer (some ⟨w.heap.size, 0, none⟩)]] (w.alloc (.cells #[.map (some b)] 91)) fun e w' => ∃ (v : Value) (ss : List (List UInt8)), e = .returned v ∧ ss.Perm (strKeys D0) ∧
      w'.ownsRow (w.alloc (.cells #[.map (some b)] 91)).heap.size 9 1 v ss.length ((ss.mergeSort (fun x y => decide (x ≤ y))).map encStr) ∧ (v = .slice none 0 0 ↔ ss = []) ∧ Below (w.alloc (.cells #[.map (some b)] 91)).heap.size (w.alloc (.cells #[.map (some b)] 91)) w' := by
  have hbl := hown.lt
  have hseq : SeqGives Fence.wide 2 Tryz.prog 75 #[.pointer (some ⟨w.heap.size, 0, none⟩)] encStr (fun ss => ss.Perm (strKeys D0)) (Maps.size D0) (w.alloc (.cells #[.map (some b)] 91)) :=
    AnyZ.keys_gives (ρ := w_keys_ren) { w_keys with } Fence.wide _ trivial rfl (by omega) w.heap.size b nn D0 _ (by simp) (by simp) (by
      obtain ⟨es, clock, hb, Ft, hs, hD⟩ := hown
      exact ⟨es, clock, (Below.heap_alloc _ _ b hbl).trans hb, Ft, hs, hD⟩)
  exact (callsIn_wide (n := 5)).1 (AnyZ.sorted_in w_sorted Fence.wide 5 trivial trivial trivial trivial rfl (by omega) (w_sorts _) (enters_of Tryz.func74 (by kernel_rfl) rfl) 75 #[.pointer (some ⟨w.heap.size, 0, none⟩)] trivial (enters_of Tryz.func75 (by kernel_rfl) rfl) _ _ hmax hbytes _ hseq)

end Go.Proofs.YtpmafabphlejeaaGreat
/-
  Names in order, without the program; a map's keys as what the library's contract reads.
  Conditions: none.
-/
namespace Go.Proofs.YtpmafabphlejeaaGreat
open Go.RowKit Go.Maps Go.MapKept
set_option linter.unusedVariables false
set_option linter.unusedSimpArgs false
set_option maxRecDepth 100000

abbrev Nm := List UInt8
/-- The names of l, each once, in order. -/
structure NamesOf (l ns : List Nm) : Prop where
  asc : ns.Pairwise (fun a b => a < b)
  mem : ∀ x, x ∈ ns ↔ x ∈ l
theorem asc_nodup {ns : List Nm} (h : ns.Pairwise (fun a b => a < b)) : ns.Nodup := h.imp fun hab e => by subst e; exact absurd hab (List.lt_irrefl _)
theorem NamesOf.uniq {l a b : List Nm} (ha : NamesOf l a) (hb : NamesOf l b) : a = b := by
  refine List.Perm.eq_of_pairwise (le := fun x y => x ≤ y) (fun x y _ _ h1 h2 => List.le_antisymm h1 h2) (ha.asc.imp fun h => List.le_of_lt h) (hb.asc.imp fun h => List.le_of_lt h) ?_
  exact (List.perm_ext_iff_of_nodup (asc_nodup ha.asc) (asc_nodup hb.asc)).2 fun x => by rw [ha.mem, hb.mem]
theorem NamesOf.nil : NamesOf [] [] := ⟨List.Pairwise.nil, fun x => Iff.rfl⟩
theorem lt_of_le_ne {a b : Nm} (h : a ≤ b) (hn : a ≠ b) : a < b := by
  by_cases h1 : a < b
  · exact h1
  · exact absurd (List.le_antisymm h (List.not_lt.1 h1)) hn
theorem lt_of_not {a b : Nm} (h1 : ¬ a < b) (h2 : a ≠ b) : b < a := by
  rcases List.le_total a b with h | h
  · exact absurd (List.le_antisymm h (List.not_lt.1 h1)) h2
  · exact lt_of_le_ne h (Ne.symm h2)
theorem NamesOf.there {l ns : List Nm} {x : Nm} (h : NamesOf l ns) (hx : x ∈ ns) : NamesOf (l ++ [x]) ns := by
  refine ⟨h.asc, fun y => ?_⟩
  rw [h.mem, List.mem_append, List.mem_singleton]
  constructor
  · exact .inl
  · rintro (h1 | rfl)
    · exact h1
    · exact (h.mem _).1 hx
theorem NamesOf.insert {l ns : List Nm} {x : Nm} {n : Nat} (h : NamesOf l ns) (hn : n ≤ ns.length) (hlo : ∀ j (hj : j < ns.length), j < n → ns[j] < x) (hhi : ∀ hj : n < ns.length, x < ns[n]) : NamesOf (l ++ [x]) (ns.take n ++ [x] ++ ns.drop n) := by
  have hd : ∀ y ∈ ns.drop n, x < y := by
    intro y hy
    by_cases hnl : n < ns.length
    · rw [List.drop_eq_getElem_cons hnl] at hy
      have hp := h.asc.sublist (List.drop_sublist n ns)
      rw [List.drop_eq_getElem_cons hnl, List.pairwise_cons] at hp
      rcases List.mem_cons.1 hy with rfl | hy
      · exact hhi hnl
      · exact List.lt_trans (hhi hnl) (hp.1 y hy)
    · rw [List.drop_eq_nil_of_le (by omega)] at hy
      cases hy
  have ht : ∀ y ∈ ns.take n, y < x := by
    intro y hy
    obtain ⟨j, hj, rfl⟩ := List.getElem_of_mem hy
    rw [List.length_take] at hj
    rw [List.getElem_take]
    exact hlo j (by omega) (by omega)
  refine ⟨?_, fun y => ?_⟩
  · rw [List.append_assoc, List.pairwise_append]
    refine ⟨h.asc.sublist (List.take_sublist n ns), ?_, ?_⟩
    · rw [List.singleton_append, List.pairwise_cons]
      exact ⟨hd, h.asc.sublist (List.drop_sublist n ns)⟩
    · intro a ha b hb
      rw [List.singleton_append] at hb
      rcases List.mem_cons.1 hb with rfl | hb
      · exact ht a ha
      · exact List.lt_trans (ht a ha) (hd b hb)
  · have e : y ∈ ns ↔ y ∈ ns.take n ∨ y ∈ ns.drop n := by rw [← List.mem_append, List.take_append_drop]
    rw [List.mem_append, List.mem_append, List.mem_append, List.mem_singleton, ← h.mem, e]
    constructor
    · rintro ((h1 | h1) | h1)
      · exact .inl (.inl h1)
      · exact .inr h1
      · exact .inl (.inr h1)
    · rintro ((h1 | h1) | h1)
      · exact .inl (.inl h1)
      · exact .inr h1
      · exact .inl (.inr h1)
theorem names_sort {l ss : List Nm} (hn : ss.Nodup) (hm : ∀ x, x ∈ ss ↔ x ∈ l) : NamesOf l (ss.mergeSort (fun x y => decide (x ≤ y))) := by
  have tr : ∀ a b c : Nm, decide (a ≤ b) = true → decide (b ≤ c) = true → decide (a ≤ c) = true := fun a b c h1 h2 => by simp only [decide_eq_true_eq] at *; exact List.le_trans h1 h2
  have tot : ∀ a b : Nm, (decide (a ≤ b) || decide (b ≤ a)) = true := fun a b => by simp only [Bool.or_eq_true, decide_eq_true_eq]; exact List.le_total a b
  have hp := List.mergeSort_perm ss (fun x y => decide (x ≤ y))
  refine ⟨?_, fun x => by rw [hp.mem_iff, hm]⟩
  have h1 := List.pairwise_mergeSort tr tot ss
  have h2 : (ss.mergeSort (fun x y => decide (x ≤ y))).Nodup := hp.nodup_iff.2 hn
  exact (h1.and h2).imp fun h => lt_of_le_ne (by simpa using h.1) h.2

def namesL (ps : List PutE) (rs : List RefE) : List Nm := ps.map (fun p => sb p.q) ++ rs.map (fun r => sb r.q)

/-! ### a map's keys -/
def KeysAre (L : List (ByteArray × Value)) (l : List Nm) : Prop := (∀ x, x ∈ L.map (fun y => sb y.1) ↔ x ∈ l) ∧ L.length ≤ l.length
theorem KeysAre.nil : KeysAre [] [] := ⟨fun x => Iff.rfl, Nat.le_refl _⟩
theorem KeysAre.put {L : List (ByteArray × Value)} {l : List Nm} (h : KeysAre L l) (q : ByteArray) (v : Value) : KeysAre (putA q v L) (l ++ [sb q]) := by
  have hk := putA_keys q v L
  have e : ∀ M : List (ByteArray × Value), M.map (fun y => sb y.1) = (M.map (·.1)).map sb := fun M => by rw [List.map_map]; rfl
  refine ⟨fun x => ?_, ?_⟩
  · rw [e, hk]
    have h1 := h.1 x
    rw [e] at h1
    split
    · rename_i hq
      rw [h1, List.mem_append, List.mem_singleton]
      constructor
      · exact .inl
      · rintro (h2 | rfl)
        · exact h2
        · exact (h.1 _).1 (by rw [e]; exact List.mem_map.2 ⟨q, hq, rfl⟩)
    · rw [List.map_append, List.mem_append, h1, List.mem_append]
      simp
  · have := congrArg List.length hk
    rw [List.length_map] at this
    rw [this, List.length_append, List.length_singleton]
    have h2 := h.2
    split
    · rw [List.length_map]; omega
    · rw [List.length_append, List.length_map, List.length_singleton]; omega
def unitR (v : Value) : Option (DataW Unit × List MemPlace) := some (.lit (.bool true), [])
theorem keyStr {q : ByteArray} (h : q.size ≤ 140737488351232) : keyOf Tryz.prog 9 (.string q) = some (.string (sb q)) := by
  have h0 : q.size ≤ maxLen := by simp only [maxLen]; omega
  simp [keyOf, Tryz.underlying9, mapKey, h0, sb]
theorem MapS.owns {w : World} {b : Nat} {L : List (ByteArray × Value)} (h : MapS famStr w b L) (hl : L.length ≤ 1000) : ∃ D : DataW Unit, w.ownsMap Tryz.prog 9 unitR b L.length D ∧ (strKeys D).Perm (L.map fun x => sb x.1) ∧ Maps.size D = L.length := by
  obtain ⟨⟨es, clock, hb, hst, he⟩, hok, hnd⟩ := h
  have hlen : es.toList.length = L.length := by have := congrArg List.length he; simpa using this
  have hkey : ∀ x ∈ es.toList, ∃ q : ByteArray, x.key = .string q ∧ q.size ≤ 140737488351232 := fun x hx => by
    have : (x.key, x.val) ∈ L.map (fun x => (famStr.kv x.1, x.2)) := by rw [← he]; exact List.mem_map.2 ⟨x, hx, rfl⟩
    obtain ⟨y, hy, hye⟩ := List.mem_map.1 this
    simp at hye
    exact ⟨y.1, hye.1.symm, hok y hy⟩
  have hrd : ∀ x ∈ es.toList, ∀ q : ByteArray, x.key = .string q → q.size ≤ 140737488351232 → WideElems.rd Tryz.prog 9 unitR x = some (.string (sb q), .lit (.bool true)) := fun x hx q e hq => by
    unfold WideElems.rd
    rw [e, keyStr hq]
    rfl
  refine ⟨_, ⟨es, clock, hb, ⟨by rw [← Array.length_toList, hlen]; simp only [maxLen]; omega, hst, fun x hx => ?_⟩, by rw [← Array.length_toList, hlen]; exact Nat.le_refl _, rfl⟩, ?_, ?_⟩
  · obtain ⟨q, e, hq⟩ := hkey x hx
    exact ⟨_, hrd x hx q e hq⟩
  · show (((es.toList.map (WideElems.rg Tryz.prog 9 unitR)).foldr DataW.insert []).map fun p => strOf p.1).Perm _
    refine ((Go.WideShapes.sorted_perm _).map _).trans (List.Perm.of_eq ?_)
    rw [List.map_map]
    have h1 : (es.toList.map fun e => (e.key, e.val)).map (fun p => match p.1 with | .string q => sb q | _ => []) = (L.map fun x => (famStr.kv x.1, x.2)).map (fun p => match p.1 with | .string q => sb q | _ => []) := by rw [he]
    rw [List.map_map, List.map_map] at h1
    refine Eq.trans (List.map_congr_left fun x hx => ?_) h1
    obtain ⟨q, e, hq⟩ := hkey x hx
    simp only [Function.comp]
    unfold WideElems.rg
    rw [hrd x hx q e hq, e]
    rfl
  · show ((es.toList.map (WideElems.rg Tryz.prog 9 unitR)).foldr DataW.insert []).length = _
    rw [(Go.WideShapes.sorted_perm _).length_eq, List.length_map, hlen]
theorem map_nodup {w : World} {b : Nat} {L : List (ByteArray × Value)} (h : MapS famStr w b L) : (L.map fun x => sb x.1).Nodup := by
  have e : L.map (fun y => sb y.1) = (L.map (·.1)).map sb := by rw [List.map_map]; rfl
  rw [e]
  unfold List.Nodup
  rw [List.pairwise_map]
  exact h.2.2.imp fun hab e => hab (sb_inj e)

end Go.Proofs.YtpmafabphlejeaaGreat
/-
  The contract of the program's Queues.
  Conditions: none but sizes.
-/
namespace Go.Proofs.YtpmafabphlejeaaGreat
open Go.RowKit
set_option linter.unusedVariables false
set_option linter.unusedSimpArgs false
set_option maxRecDepth 100000

theorem smap2_make (u : World) : (Instr.makeMap 91 none).run Tryz.prog u = .ok (.map (some u.heap.size)) (u.alloc (.map #[] 0)) := by simp [Instr.makeMap, run_underlying Tryz.underlying91, Result.andThen]
def nmP (ps : List PutE) : List Nm := ps.map fun p => sb p.q
def nmR (rs : List RefE) : List Nm := rs.map fun r => sb r.q
theorem nmP_step (ps : List PutE) (j : Nat) (h : j < ps.length) : nmP (ps.take (j + 1)) = nmP (ps.take j) ++ [sb ps[j].q] := by
  unfold nmP
  rw [List.take_succ_eq_append_getElem h, List.map_append]; rfl
theorem nmR_step (rs : List RefE) (j : Nat) (h : j < rs.length) : nmR (rs.take (j + 1)) = nmR (rs.take j) ++ [sb rs[j].q] := by
  unfold nmR
  rw [List.take_succ_eq_append_getElem h, List.map_append]; rfl
/-- A map of names under way, beside the box of the work. -/
structure MapAt (w0 : World) (mb : Nat) (v1 v2 : Value) (l : List Nm) (w : World) : Prop where
  box : BoxK w w0.heap.size v1 v2
  hb : w0.heap.size < mb
  m : ∃ L, MapS famStr w mb L ∧ KeysAre L l
  bel : Below w0.heap.size w0 w
section
variable {w0 w w' : World} {mb : Nat} {v1 v2 : Value} {l : List Nm}
theorem MapAt.step (h : MapAt w0 mb v1 v2 l w) (hb : Below w.heap.size w w') : MapAt w0 mb v1 v2 l w' := by
  obtain ⟨L, hm, hk⟩ := h.m
  exact ⟨h.box.kept hb (Nat.le_refl _), h.hb, ⟨L, hm.keep (hb.block _ hm.lt), hk⟩, h.bel.trans (hb.mono h.bel.size)⟩
theorem MapAt.put (h : MapAt w0 mb v1 v2 l w) (q : ByteArray) (hq : q.size ≤ 140737488351232) : ∃ w', (Instr.mapUpdate 91 (.map (some mb)) (.string q) (.agg #[])).run Tryz.prog w = .ok () w' ∧ MapAt w0 mb v1 v2 (l ++ [sb q]) w' := by
  obtain ⟨L, hm, hk⟩ := h.m
  obtain ⟨w', h1, h2, h3, h4⟩ := hm.store (T := 91) Tryz.underlying91 (q := q) hq (.agg #[])
  refine ⟨w', h1, ⟨(h3.block _ h.box.lt (by intro e; have := Option.some.inj e; have := h.hb; omega)).trans h.box, h.hb, ⟨_, h2, hk.put q _⟩, h.bel.grown h3 h.bel.size (fun k e => by have := Option.some.inj e; have := h.hb; omega)⟩⟩
end
def QueSaid (l : List Nm) (w : World) (e : Ending) (w' : World) : Prop := ∃ v ns, e = .returned v ∧ NamesOf l ns ∧ OwnG strC 9 w' w.heap.size v (ns.map str8) ∧ Below w.heap.size w w'
theorem strC_all (l : List Nm) : strC.all (l.map str8) = l.map Go.Proofs.encStr := by
  induction l with
  | nil => rfl
  | cons x r ih => rw [List.map_cons, Code.all_cons, ih]; rfl

set_option maxHeartbeats 4000000 in
theorem queues_any (x : WorkC) (w : World) (h : ShowsW w x) (hf : Few x.cs) : Calls Tryz.prog 23 #[workVal x] w (QueSaid (nmP (ifW x).ps ++ nmR (ifW x).rs) w) := by
  have HC := Lib.hid (fun w' (hb : Below w.heap.size w w') => ifvalid_any x w' (h.kept hb (Nat.le_refl _)) hf)
  have hlen := ifW_len (x := x)
  have HSP := Lib.hid (ifW_shows h).puts
  have HST := Lib.hid (ifW_shows h).takes
  have hmk := smap2_make
  unfold QueSaid
  clear h hf
  generalize ifW x = y at *
  obtain ⟨B1, b1, ds, B2, b2, ss⟩ := y
  obtain ⟨A1, c1, cs, A2, c2, rs⟩ := x
  unfold workVal at *
  simp only [WorkC.ps] at *
  have hB0 := below_boxV w (Obj.cells #[.slice A1 cs.length c1, .slice A2 rs.length c2] 25)
  have hX0 := BoxK.new w (.slice A1 cs.length c1) (.slice A2 rs.length c2)
  have k0 := hX0.c0
  have k1 := hX0.c1
  have H0 := Lib.hid (And.intro hB0 hX0)
  clear hB0 hX0
  obtain ⟨hl1, hl2⟩ := hlen
  go_enter Tryz.func23, Tryz.ntmps23
  go_wp2_with fail
  refine (HC.out _ H0.out.1).mono ?_
  rintro e w1 ⟨rfl, hb1⟩
  obtain ⟨hB0, hX0⟩ := H0.out
  have hX1 := hX0.kept hb1 (Nat.le_refl _)
  clear k0 k1
  have k0 := hX1.c0
  have k1 := hX1.c1
  have f0 := hX1.fr 0
  have f1 := hX1.fr 1
  obtain ⟨W2, hW2⟩ : ∃ W2, W2 = (w1.setCell ⟨w.heap.size, 0, none⟩ (.slice B1 ds.length b1)).setCell ⟨w.heap.size, 1, none⟩ (.slice B2 ss.length b2) := ⟨_, rfl⟩
  have hX2 : BoxK W2 w.heap.size (.slice B1 ds.length b1) (.slice B2 ss.length b2) := by rw [hW2]; exact (hX1.set0 _).set1 _
  have hb2 : Below w.heap.size w W2 := by rw [hW2]; exact below_set (below_set (hB0.trans (hb1.mono hB0.size)) (Nat.le_refl w.heap.size) _) (Nat.le_refl w.heap.size) _
  have hm3 : MapAt w W2.heap.size (.slice B1 ds.length b1) (.slice B2 ss.length b2) [] (W2.alloc (.map #[] 0)) :=
    ⟨hX2.kept ((Below.refl _ _).alloc (Nat.le_refl _) _) (Nat.le_refl _), hX2.lt, ⟨[], MapS.new famStr W2, KeysAre.nil⟩, hb2.alloc hb2.size _⟩
  have HW2 := Lib.hid hW2.symm
  have HM3 := Lib.hid hm3
  have y0 := hm3.box.c0
  clear hX2 hb2 hW2 hm3 hX1 hX0 hB0 hb1
  go_upto_region 2 with fail
  rw [HW2.out]
  clear k0 k1 f0 f1
  go_wp2_with fail
  go_loopw [14] (fun iv wr => ∃ (j : Nat), j ≤ ds.length ∧ iv = .int .i64 j ∧ Hid (MapAt w W2.heap.size (.slice B1 ds.length b1) (.slice B2 ss.length b2) (nmP ((esOf ds).take j)) wr)) (fun i _ => ds.length - (intOf i).toNat)
  case atStart => exact ⟨0, by omega, rfl, HM3⟩
  case round =>
    rename World => wr
    obtain ⟨j, hj, rfl, hm⟩ := hrel
    by_cases hlt : j < ds.length
    · obtain ⟨d, o, rfl, hd, ⟨e0, e1, e2, e3, e4, e5⟩, e6, e7, e8, e9, e10, e11⟩ := (HSP.out.kept hm.out.bel (Nat.le_refl _)).at_ j hlt
      have hj1 : (j : Int) < (ds.length : Int) := by omega
      have b3 : IntKind.i64.wrap ((j : Int) + 1) = (j : Int) + 1 := i64_id _ (by omega) (by omega)
      have hB1 := below_boxV wr (Obj.cells #[.string ds[j].e.q, .int .u64 ds[j].e.id, .string ds[j].e.p.key, .bool ds[j].e.p.dur, .bool ds[j].e.p.red, .string ds[j].e.p.id, .int .u8 ds[j].x.k, .int .u64 ds[j].x.n, .string ds[j].x.s, .slice ds[j].x.a3 ds[j].x.n3 ds[j].x.c3, .slice ds[j].x.a4 ds[j].x.n4 ds[j].x.c4, .string ds[j].e.body] 35)
      obtain ⟨w2, hput, hm2⟩ := (hm.out.step hB1).put ds[j].e.q (HSP.out.each j hlt).q
      have hst := nmP_step (esOf ds) j (by rw [esOf_len]; exact hlt)
      rw [esOf_get ds j hlt] at hst
      rw [← hst] at hm2
      have HM2 := Lib.hid hm2
      clear hm2 hB1 hst hd
      go_wp2_with fail
      go_roundw
      case rel => exact ⟨j + 1, by omega, by go_num, HM2⟩
      case measure => simp [intOf]; omega
    · have hj1 : ¬ (j : Int) < (ds.length : Int) := by omega
      have HMa := Lib.hid (show MapAt w W2.heap.size (.slice B1 ds.length b1) (.slice B2 ss.length b2) (nmP (esOf ds)) wr by have := hm.out; rw [List.take_of_length_le (by rw [esOf_len]; omega)] at this; exact this)
      have x1 := hm.out.box.c1
      clear hm
      go_wp2_with fail
      go_loopw [26] (fun iv wr => ∃ (j : Nat), j ≤ ss.length ∧ iv = .int .i64 j ∧ Hid (MapAt w W2.heap.size (.slice B1 ds.length b1) (.slice B2 ss.length b2) (nmP (esOf ds) ++ nmR (ss.take j)) wr)) (fun i _ => ss.length - (intOf i).toNat)
      case atStart => exact ⟨0, by omega, rfl, Lib.hid (by have := HMa.out; simpa [nmR] using this)⟩
      case round =>
        rename World => wz
        obtain ⟨j2, hj2, rfl, hm⟩ := hrel
        by_cases hlt : j2 < ss.length
        · obtain ⟨d, o, rfl, hd, c0, c1⟩ := (HST.out.kept hm.out.bel (Nat.le_refl _)).at_ j2 hlt
          have hj1' : (j2 : Int) < (ss.length : Int) := by omega
          have b3 : IntKind.i64.wrap ((j2 : Int) + 1) = (j2 : Int) + 1 := i64_id _ (by omega) (by omega)
          have hq := (HST.out.each j2 hlt).1
          have hst := nmR_step ss j2 hlt
          generalize ss[j2] = r at *
          have hB1 := below_boxV wz (Obj.cells #[.string r.q, .int .u64 r.id] 37)
          obtain ⟨w2, hput, hm2⟩ := (hm.out.step hB1).put r.q hq
          rw [List.append_assoc, ← hst] at hm2
          have HM2 := Lib.hid hm2
          clear hm2 hB1 hst hd hq
          go_wp2_with fail
          go_roundw
          case rel => exact ⟨j2 + 1, by omega, by go_num, HM2⟩
          case measure => simp [intOf]; omega
        · have hj1' : ¬ (j2 : Int) < (ss.length : Int) := by omega
          have hMb : MapAt w W2.heap.size (.slice B1 ds.length b1) (.slice B2 ss.length b2) (nmP (esOf ds) ++ nmR ss) wz := by have := hm.out; rw [List.take_of_length_le (by omega)] at this; exact this
          obtain ⟨L, hL, hkL⟩ := hMb.m
          have hLl : L.length ≤ 200 := by
            have h1 := hkL.2
            rw [List.length_append, nmP, nmR, List.length_map, List.length_map, esOf_len] at h1
            omega
          obtain ⟨D, hown, hperm, hsz⟩ := hL.owns (by omega)
          have HKY := Lib.hid (w_keys_any (some W2.heap.size) wz)
          have HSO := Lib.hid (w_sorted_any W2.heap.size L.length D unitR wz hown (by rw [hsz]; simp only [maxLen]; omega) (by rw [hsz]; omega))
          have HN := Lib.hid (And.intro hMb.bel (And.intro hkL.1 (And.intro (map_nodup hL) hperm)))
          clear hMb hL hkL hLl hown hperm hsz hm
          go_wp2_with fail
          refine HKY.out.mono ?_
          rintro e w4 ⟨rfl, rfl⟩
          go_wp2_with fail
          refine HSO.out.mono ?_
          rintro e w5 ⟨v, ks, rfl, hp, hrow, hnil, hb5⟩
          obtain ⟨hbel, hmem, hnd, hperm⟩ := HN.out
          have hp2 := hp.trans hperm
          have hns := names_sort (l := nmP (esOf ds) ++ nmR ss) (hp2.nodup_iff.2 hnd) (fun x => by rw [hp2.mem_iff, hmem])
          have hbs := hbel.size
          have hb6 : Below w.heap.size w w5 := (hbel.alloc hbs (.cells #[.map (some W2.heap.size)] 91)).trans (hb5.mono (by simp; omega))
          have hrow1 : OwnG strC 9 w5 (wz.alloc (.cells #[.map (some W2.heap.size)] 91)).heap.size v ((ks.mergeSort (fun x y => decide (x ≤ y))).map str8) := by
            unfold OwnG
            rw [strC_all, List.length_map, List.length_mergeSort]
            exact hrow
          have hrow2 := hrow1.mono (b' := w.heap.size) (by simp; omega)
          clear hrow1
          have HF := Lib.hid (And.intro hns (And.intro hrow2 hb6))
          clear hbel hmem hnd hperm hp2 hns hb6 hrow2 hp hrow hnil hb5 hbs
          go_wp2_with fail
          go_ret
          exact ⟨v, _, rfl, HF.out.1, HF.out.2.1, HF.out.2.2⟩

end Go.Proofs.YtpmafabphlejeaaGreat
/-
  The law's head: calls whose answers the document fixes.
  Conditions: none.
-/
namespace Go.Proofs.YtpmafabphlejeaaGreat
open Go.RowKit
set_option linter.unusedVariables false
set_option linter.unusedSimpArgs false
set_option maxRecDepth 100000

def hP0 : PutC := ⟨⟨⟨#[113]⟩, 0, zPr, ⟨#[97]⟩⟩, ⟨0, 0, ⟨#[]⟩, none, 0, 0, none, 0, 0⟩⟩
def hR0 : RefE := ⟨⟨#[111]⟩, 5⟩
theorem hP0_at (w : World) : PutAt w hP0 :=
  ⟨by decide, by decide, ⟨by decide, by decide, ShowsT.make (k := 0) (n := 0) (s := ⟨#[]⟩) (ks := []) (l := []) (d0 := 0) (by decide) (by decide) (ShowsG.nil_ _ _ _) (by simp) (by simp) (by decide) (ListT.nil w)⟩, by decide⟩
theorem hR0_at : RefAt hR0 := ⟨by decide, by decide⟩
theorem hP0_cnt : cntT hP0.e.p.app ≤ 400 := by decide
theorem hP0_may : putMay false hP0.e := ⟨by decide, by decide, by decide, ⟨by decide, by decide, .inr rfl⟩, by decide +kernel⟩
theorem hR0_may : refMay hR0 = true := by decide
theorem h_v1 : workV [hP0.e] [] := one_put.2 hP0_may
theorem h_v2 : workV [hP0.e] [hR0] := by
  refine ⟨by simp, by simp, fun p hp => ?_, fun r hr => ?_, by simp⟩
  · rw [List.mem_singleton.1 hp]; exact hP0_may
  · rw [List.mem_singleton.1 hr]; exact hR0_may
theorem h_e1 : errAP [] [] hP0.e = 0 := by
  unfold errAP
  rw [if_neg (fun h => h ⟨workV_nil, hP0_may⟩), if_neg (by simp)]
theorem h_e2 : errAT [hP0.e] [] hR0 = 0 := by
  unfold errAT
  rw [if_neg (fun h => h ⟨h_v1, hR0_may⟩), if_neg (by simp), if_neg (by simp)]
theorem h_e3 : errAT [hP0.e] [hR0] hR0 = 8 := by
  unfold errAT
  rw [if_neg (fun h => h ⟨h_v2, hR0_may⟩), if_pos (by simp)]
theorem h_e4 : errD [hP0.e] [hR0] 7 = 0 := by
  unfold errD
  rw [if_neg (by rw [wB_iff.2 h_v2]; decide), if_neg (by decide)]
theorem few_of {cs : List PutC} (h : esOf cs = [hP0.e]) : FewS cs := by
  rw [fewS_iff, h]
  intro p hp
  rw [List.mem_singleton.1 hp]
  exact hP0_cnt
theorem names_h {ns : List Nm} (h : NamesOf ([[113]] ++ [[111]]) ns) : ns = [[111], [113]] := by
  refine h.uniq ⟨by simp; decide, fun x => ?_⟩
  simp
  exact or_comm
theorem OwnW.sh {w : World} {base : Nat} {y : WorkC} (h : OwnW w base y) (hl : y.cs.length ≤ 1000) (hr : ∀ r ∈ y.rs, RefAt r) (hrl : y.rs.length ≤ 1000) : ShowsW w y := (h.shows (by omega) hr (by omega)).sub (low_out _ _)

theorem ifW_len2 {x : WorkC} (h : workV x.ps x.rs) : ifW x = x := ifW_ok (wB_iff.2 h)
theorem h_add1 (w : World) : Calls Tryz.prog 11 #[.agg #[.slice none 0 0, .slice none 0 0], putV hP0] w (AddedSaid [hP0.e] [] 0 w) := by
  have := addput_any zW hP0 w (ShowsW.nil w) (fun j hj => absurd hj (by simp [zW])) (hP0_at w) hP0_cnt
  have e : errAP zW.ps zW.rs hP0.e = 0 := h_e1
  unfold addPps addPrs at this
  rw [e, if_pos rfl, if_pos rfl] at this
  exact this
theorem h_add2 (y : WorkC) (w : World) (h : ShowsW w y) (hp : y.ps = [hP0.e]) (hr : y.rs = []) : Calls Tryz.prog 13 #[workVal y, refV hR0] w (AddedSaid [hP0.e] [hR0] 0 w) := by
  have := addtake_any y hR0 w h (few_of hp) hR0_at
  unfold addTps addTrs at this
  rw [hp, hr, h_e2, if_pos rfl, if_pos rfl] at this
  exact this
theorem h_add3 (y : WorkC) (w : World) (h : ShowsW w y) (hp : y.ps = [hP0.e]) (hr : y.rs = [hR0]) : Calls Tryz.prog 13 #[workVal y, refV hR0] w (AddedSaid [] [] 8 w) := by
  have := addtake_any y hR0 w h (few_of hp) hR0_at
  unfold addTps addTrs at this
  rw [hp, hr, h_e3, if_neg (by decide), if_neg (by decide)] at this
  exact this
theorem h_do (y : WorkC) (w : World) (h : ShowsW w y) (hp : y.ps = [hP0.e]) (hr : y.rs = [hR0]) : Calls Tryz.prog 18 #[workVal y, .int .u64 7] w (EntSaid (doE [hP0.e] [hR0] 7) 0 w) := by
  have := do_any y 7 w h (few_of hp) (by decide)
  unfold doneE at this
  rw [hp, hr, h_e4, if_pos rfl] at this
  exact this
theorem h_queues (y : WorkC) (w : World) (h : ShowsW w y) (hp : y.ps = [hP0.e]) (hr : y.rs = [hR0]) : Calls Tryz.prog 23 #[workVal y] w fun e w' => ∃ A c, e = .returned (.slice A 2 c) ∧ 2 ≤ c ∧ (∃ d o, A = some ⟨d, o, none⟩ ∧ d < w'.heap.size ∧ w'.cell? ⟨d, o, none⟩ = some (.string ⟨#[111]⟩)) ∧ Below w.heap.size w w' := by
  refine (queues_any y w h (few_of hp).few).mono ?_
  rintro e w' ⟨v, ns, rfl, hn, ho, hb⟩
  rw [ifW_len2 (by rw [hp, hr]; exact h_v2), hp, hr] at hn
  have hn2 := names_h hn
  subst hn2
  obtain ⟨A, c, rfl, h1, _⟩ := ho.form
  obtain ⟨g, _, hs⟩ := ho.shows
  obtain ⟨o, rfl, hg, hc⟩ := hs.at_ (by simp)
  exact ⟨_, c, rfl, h1, ⟨g, o, rfl, hg, by have := hc 0 (by simp) 0 (by decide); simpa [strC, str8] using this⟩, hb⟩
theorem h_empty1 (w : World) : Calls Tryz.prog 25 #[.agg #[.slice none 0 0, .slice none 0 0]] w fun e w' => e = .returned (.bool true) ∧ Below w.heap.size w w' := by
  have := empty_any zW w (ShowsW.nil w) (fun j hj => absurd hj (by simp [zW]))
  rw [ifW_len2 (x := zW) workV_nil] at this
  exact this
theorem h_empty2 (y : WorkC) (w : World) (h : ShowsW w y) (hp : y.ps = [hP0.e]) (hr : y.rs = []) : Calls Tryz.prog 25 #[workVal y] w fun e w' => e = .returned (.bool false) ∧ Below w.heap.size w w' := by
  have := empty_any y w h (few_of hp).few
  rw [ifW_len2 (by rw [hp, hr]; exact h_v1)] at this
  have hl : y.cs.length = 1 := by have := congrArg List.length hp; unfold WorkC.ps at this; rw [esOf_len] at this; exact this
  rw [hl, hr] at this
  exact this
theorem len_of {y : WorkC} {ps : List PutE} (h : y.ps = ps) : y.cs.length = ps.length := by rw [← h]; unfold WorkC.ps; rw [esOf_len]

set_option maxHeartbeats 8000000 in
theorem whead_any (w : World) : Calls Tryz.prog 9 #[] w fun e w' => e = .returned (.bool true) ∧ Below w.heap.size w w' := by
  have H1 := Lib.hid (fun w' => h_add1 w')
  have H2 := Lib.hid (fun y w' (h : ShowsW w' y) hp hr => h_add2 y w' h hp hr)
  have H3 := Lib.hid (fun y w' (h : ShowsW w' y) hp hr => h_add3 y w' h hp hr)
  have H4 := Lib.hid (fun y w' (h : ShowsW w' y) hp hr => h_do y w' h hp hr)
  have H5 := Lib.hid (fun y w' (h : ShowsW w' y) hp hr => h_queues y w' h hp hr)
  have H6 := Lib.hid (fun w' => h_empty1 w')
  have H7 := Lib.hid (fun y w' (h : ShowsW w' y) hp hr => h_empty2 y w' h hp hr)
  unfold AddedSaid putV at H1
  unfold AddedSaid at H2 H3
  unfold EntSaid at H4
  unfold refV at H2 H3
  simp only [hP0, hR0, zPr, prZ] at H1
  go_enter Tryz.func9, Tryz.ntmps9
  go_wp2_with fail
  refine (H1.out _).mono ?_
  rintro e w1 ⟨⟨F1, f1, gs, F2, f2, hs⟩, rfl, hp1, hr1, ho1, hb1⟩
  have hl1 : gs.length = 1 := len_of hp1
  have hr1' : hs = [] := hr1
  subst hr1'
  have hsh1 := ho1.sh (by show gs.length ≤ 1000; omega) (by intro r hr; cases hr) (by simp)
  obtain ⟨W1, hW1⟩ : ∃ W1, W1 = w1.alloc (Obj.cells #[.slice F1 gs.length f1, .slice F2 ([] : List RefE).length f2] 25) := ⟨_, rfl⟩
  have hBo1 : BoxK W1 w1.heap.size (.slice F1 gs.length f1) (.slice F2 ([] : List RefE).length f2) := by rw [hW1]; exact BoxK.new w1 _ _
  have hbW1 : Below w1.heap.size w1 W1 := by rw [hW1]; exact below_boxV w1 _
  have hsW1 := hsh1.kept hbW1 (Nat.le_refl _)
  have hB1 : Below w.heap.size w W1 := hb1.trans (hbW1.mono hb1.size)
  have HC2 := Lib.hid (H2.out ⟨F1, f1, gs, F2, f2, []⟩ W1 hsW1 hp1 rfl)
  have HS1 := Lib.hid (And.intro hsW1 (And.intro hBo1 hB1))
  have HP1 := Lib.hid hp1
  have k0 := hBo1.c0
  have k1 := hBo1.c1
  have HW1 := Lib.hid hW1.symm
  unfold workVal at *
  clear hsh1 hBo1 hbW1 hsW1 hB1 ho1 hb1 hp1 hr1 hW1 hl1
  go_upto_region 2 with fail
  simp only [List.length_nil] at HC2 HS1 HW1 k0 k1
  rw [HW1.out]
  go_wp2_with fail
  refine HC2.out.mono ?_
  rintro e w2 ⟨⟨G1, g1, gs2, G2, g2, hs2⟩, rfl, hp2, hr2, ho2, hb2⟩
  have hl2 : gs2.length = 1 := len_of hp2
  have hr2' : hs2 = [hR0] := hr2
  have hrl2 : hs2.length = 1 := by rw [hr2']; rfl
  have hsh2 := ho2.sh (by show gs2.length ≤ 1000; omega) (by show ∀ r ∈ hs2, RefAt r; rw [hr2']; intro r hr; rw [List.mem_singleton.1 hr]; exact hR0_at) (by show hs2.length ≤ 1000; omega)
  obtain ⟨W2, hW2⟩ : ∃ W2, W2 = w2.alloc (Obj.cells #[.slice G1 gs2.length g1, .slice G2 hs2.length g2] 25) := ⟨_, rfl⟩
  have hBo2 : BoxK W2 w2.heap.size (.slice G1 gs2.length g1) (.slice G2 hs2.length g2) := by rw [hW2]; exact BoxK.new w2 _ _
  have hbW2 : Below w2.heap.size w2 W2 := by rw [hW2]; exact below_boxV w2 _
  have hb12 : Below W1.heap.size W1 W2 := hb2.trans (hbW2.mono hb2.size)
  have hsW2 := hsh2.kept hbW2 (Nat.le_refl _)
  have HC3 := Lib.hid (H3.out ⟨G1, g1, gs2, G2, g2, hs2⟩ W2 hsW2 hp2 hr2)
  have HS2 := Lib.hid (And.intro hsW2 (And.intro hBo2 hb12))
  have HP2 := Lib.hid (And.intro hp2 hr2)
  clear k0 k1
  have k0 := hBo2.c0
  have k1 := hBo2.c1
  have HW2 := Lib.hid hW2.symm
  clear hsh2 hBo2 hbW2 hsW2 hb12 ho2 hb2 hp2 hr2 hW2 hl2 hr2' hrl2
  simp only [] at HC3
  go_upto_region 3 with fail
  rw [HW2.out]
  go_wp2_with fail
  refine HC3.out.mono ?_
  rintro e w3 ⟨⟨J1, j1, gs3, J2, j2, hs3⟩, rfl, hp3, hr3, ho3, hb3⟩
  obtain ⟨W3, hW3⟩ : ∃ W3, W3 = w3.alloc (Obj.cells #[.slice J1 gs3.length j1, .slice J2 hs3.length j2] 25) := ⟨_, rfl⟩
  have hb23 : Below W2.heap.size W2 W3 := by rw [hW3]; exact hb3.trans ((below_boxV w3 _).mono hb3.size)
  have hs3 := HS2.out.1.kept hb23 (Nat.le_refl _)
  have hBo3 := HS2.out.2.1.kept hb23 (Nat.le_refl _)
  have HC4 := Lib.hid (H4.out ⟨G1, g1, gs2, G2, g2, hs2⟩ W3 hs3 HP2.out.1 HP2.out.2)
  have HS3 := Lib.hid (And.intro hs3 (And.intro hBo3 hb23))
  clear k0 k1
  have k0 := hBo3.c0
  have k1 := hBo3.c1
  have HW3 := Lib.hid hW3.symm
  clear hs3 hBo3 hb23 ho3 hb3 hp3 hr3 hW3
  simp only [] at HC4
  go_upto_region 4 with fail
  rw [HW3.out]
  go_wp2_with fail
  refine HC4.out.mono ?_
  rintro e w4 ⟨z, rfl, hz, hzs, hzf, hb4⟩
  obtain ⟨zk, zname, zn, zxf, zxg, zxh, ZA, zc, zcs, ZB, zd, zrs⟩ := z
  unfold entV
  simp only []
  have hk3 : zk = 3 := congrArg EntE.k hz
  have hcs : esOf zcs = numE 7 0 [hP0.e] := congrArg EntE.puts hz
  have hrs : zrs = [hR0] := congrArg EntE.takes hz
  have hcl : zcs.length = 1 := by have := congrArg List.length hcs; rw [esOf_len] at this; exact this
  have hrl : zrs.length = 1 := by rw [hrs]; rfl
  have hid : ∀ h0 : 0 < zcs.length, (zcs[0]'h0).e.id = 7 := by
    intro h0
    rw [← esOf_get zcs 0 h0]
    have : (esOf zcs)[0]'(by rw [esOf_len]; omega) = (numE 7 0 [hP0.e])[0]'(by simp [numE]) := by congr 1
    rw [this]
    rfl
  obtain ⟨W4, hW4⟩ : ∃ W4, W4 = w4.alloc (Obj.cells #[.int .u8 zk, .string zname, .int .u64 zn, .int .u32 zxf, .string zxg, .string zxh, .slice ZA zcs.length zc, .slice ZB zrs.length zd] 57) := ⟨_, rfl⟩
  have hb34 : Below W3.heap.size W3 W4 := by rw [hW4]; exact hb4.trans ((below_boxV w4 _).mono hb4.size)
  have hE4 : BoxE W4 w4.heap.size ⟨zk, zname, zn, zxf, zxg, zxh, ZA, zc, zcs, ZB, zd, zrs⟩ := by rw [hW4]; exact BoxE.new (x := ⟨zk, zname, zn, zxf, zxg, zxh, ZA, zc, zcs, ZB, zd, zrs⟩) w4
  have hz4 : ShowsE W4 ⟨zk, zname, zn, zxf, zxg, zxh, ZA, zc, zcs, ZB, zd, zrs⟩ := by rw [hW4]; exact hzs.kept (below_boxV w4 _) (Nat.le_refl _)
  have hs4 := HS3.out.1.kept hb34 (Nat.le_refl _)
  have hBo4 := HS3.out.2.1.kept hb34 (Nat.le_refl _)
  have HC5 := Lib.hid (H5.out ⟨G1, g1, gs2, G2, g2, hs2⟩ W4 hs4 HP2.out.1 HP2.out.2)
  have HE4 := Lib.hid (And.intro hE4 (And.intro hz4 hb34))
  have HL := Lib.hid (And.intro hk3 (And.intro hcl (And.intro hrl hid)))
  clear k0 k1
  have k0 := hBo4.c0
  have k1 := hBo4.c1
  have HW4 := Lib.hid hW4.symm
  clear hs4 hBo4 hb34 hb4 hz hzs hzf hE4 hz4 hW4 hk3 hcs hrs hcl hrl hid
  simp only [] at HC5
  go_upto_region 5 with fail
  rw [HW4.out]
  go_wp2_with fail
  refine HC5.out.mono ?_
  rintro e w5 ⟨QA, qc, rfl, hqc, ⟨qd, qo, rfl, hqd, hq0⟩, hb5⟩
  have hE5 := HE4.out.1.kept hb5 (Nat.le_refl _)
  have hz5 := HE4.out.2.1.kept hb5 (Nat.le_refl _)
  obtain ⟨hk3, hcl, hrl, hid⟩ := HL.out
  obtain ⟨pd, po, hZA, hpd, ⟨hp0, hp1, hp2⟩, hp3⟩ := hz5.puts.at_ 0 (by show 0 < zcs.length; omega)
  simp only [] at hZA hp1
  subst hZA
  have hid5 : w5.cell? ⟨pd, po + 1, none⟩ = some (.int .u64 7) := by
    have h0 : po + 0 * 12 + 1 = po + 1 := by omega
    rw [h0] at hp1
    rw [hp1, hid (by omega)]
    rfl
  have n0 : w5.cell? ⟨w4.heap.size, 0, none⟩ = some (.int .u8 3) := by have := hE5.cells.1.1; rw [hk3] at this; exact this
  have n6 : w5.cell? ⟨w4.heap.size, 6, none⟩ = some (.slice (some ⟨pd, po, none⟩) 1 zc) := by have := hE5.cells.2.2.1; simp only [hcl] at this; exact this
  have n7 : w5.cell? ⟨w4.heap.size, 7, none⟩ = some (.slice ZB 1 zd) := by have := hE5.cells.2.2.2; simp only [hrl] at this; exact this
  have hb15 : Below W1.heap.size W1 w5 := (((HS2.out.2.2.trans (HS3.out.2.2.mono HS2.out.2.2.size)).trans (HE4.out.2.2.mono (Nat.le_trans HS2.out.2.2.size HS3.out.2.2.size))).trans (hb5.mono (Nat.le_trans (Nat.le_trans HS2.out.2.2.size HS3.out.2.2.size) HE4.out.2.2.size)))
  have hs15 := HS1.out.1.kept hb15 (Nat.le_refl _)
  have hBo15 := HS1.out.2.1.kept hb15 (Nat.le_refl _)
  have hB05 := HS1.out.2.2.trans (hb15.mono HS1.out.2.2.size)
  have HC6 := Lib.hid (H6.out w5)
  have HF := Lib.hid (And.intro hs15 (And.intro hBo15 hB05))
  clear hp0 hp1 hp2 hp3
  clear k0 k1 hE5 hz5 hk3 hcl hrl hid hb15 hs15 hBo15 hB05 hb5 hqc hqd hpd
  go_wp2_with fail
  refine HC6.out.mono ?_
  rintro e w6 ⟨rfl, hb6⟩
  have hBo6 := HF.out.2.1.kept hb6 (Nat.le_refl _)
  have HC7 := Lib.hid (H7.out ⟨F1, f1, gs, F2, f2, []⟩ w6 (HF.out.1.kept hb6 (Nat.le_refl _)) HP1.out rfl)
  have HB6 := Lib.hid (HF.out.2.2.trans (hb6.mono HF.out.2.2.size))
  have k0 := hBo6.c0
  have k1 := hBo6.c1
  simp only [List.length_nil] at HC7 k1
  clear hBo6 hb6 n0 n6 n7 hid5 hq0
  go_wp2_with fail
  refine HC7.out.mono ?_
  rintro e w7 ⟨rfl, hb7⟩
  have HB7 := Lib.hid (HB6.out.trans (hb7.mono HB6.out.size))
  clear hb7 k0 k1
  go_wp2_with fail
  go_ret
  exact ⟨rfl, HB7.out⟩

end Go.Proofs.YtpmafabphlejeaaGreat
