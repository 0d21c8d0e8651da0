/-
  The document's calls of disks, further: Copy.
  Conditions: none but sizes.
-/
import Derived.Test.YtngjmeohleoglaaDqK
import Derived.Test.YtngjmeohleoglaaGaW
import Derived.Deep.RegionHeld3
namespace Go.Proofs.Ytngjmeohleoglaa
open Go.RowKit Go.Shelf
set_option linter.unusedVariables false
set_option linter.unusedSimpArgs false
set_option maxRecDepth 100000

theorem step_appendG0 {α : Type} (C : Code α) {P : Program} (w : World) {ops : Array Oper} {o : Oper} {a : Act} {K : Act → World → Prop} {Q : Exit → Act → World → Prop} {E : Prop} (hgd : o.guard = none) (s x : Operand) (t : TypeId)
    (ho : o.op = .call { callee := .builtin .append, args := #[s, x], argTypes := #[t, t] })
    (base : Nat) (e : TypeId) (z : Value) (bytes : Nat) (ht : P.underlying t = some (.slice e)) (hi : (P.info? e).map (fun i => (i.zero, i.size, i.bytes)) = some (some z, C.sz, bytes)) (hzs : z.cells.size = C.sz)
    (v : Value) (l : List α) (hs : a.eval s = v) (hown : OwnG C e w base v l) (d : Nat) (y : Value) (m : List α) (hx : a.eval x = y) (hm : ShowsG C w d y m)
    (hb : (l.length + m.length) * bytes ≤ 140737488355328) (hb63 : l.length + m.length ≤ 140737488355328) (hbase : base ≤ w.heap.size)
    (h : ∀ v' w', OwnG C e w' base v' (l ++ m) → w.grownBy w' v.ownBlock → K (a.put o.dst v') w') :
    if Region.wanted o (yielded ops a.tmps) = true then Oper.wp P o a w K Q else E := by
  have hw : Region.wanted o (yielded ops a.tmps) = true := by simp [Region.wanted, hgd]
  rw [if_pos hw]
  obtain ⟨i, hi0, hz, hs1, hb1⟩ := info_parts hi
  obtain ⟨v', w', hr, h2, h3⟩ := run_appendG (P := P) (C := C) t o.type i z bytes ht hi0 hz hs1 hb1 hzs hown y m hm hb (by simp only [maxLen]; omega) hbase
  unfold Oper.wp execOp
  simp only [ho, resolve, invoke, builtin, Sem.run_bind, Sem.run_pure, Result.andThen_ok, List.map_toArray, List.map_cons, List.map_nil, hs, hx, hr]
  exact h v' w' h2 h3

section
variable {w0 w w' : World} {base qb n : Nat} {F : Nat → Prop} {v v' : Value} {st st' : DD}
/-- A disk of the document's of new blocks alone. -/
def QCopied (w : World) (st : DD) : Ending → World → Prop := fun e w' => ∃ cb v', e = .returned (.pointer (some ⟨cb, 0, none⟩)) ∧ QI w' w.heap.size cb v' st ∧ Below w.heap.size w w'
theorem copied_end {w1 : World} {u : Value} (hb : Below w.heap.size w w1) (ho : OwnG fileC 64 w1 w.heap.size u st.fs) :
    QCopied w st (.returned (.pointer (some ⟨w1.heap.size, 0, none⟩))) (w1.alloc (.cells #[u, .int .i64 st.room, .int .i64 st.fuse, .bool st.down] 53)) :=
  ⟨_, u, rfl, ⟨heap_alloc_new w1 _, ho.alloc_ _, hb.size⟩, hb.alloc hb.size _⟩

set_option maxHeartbeats 1000000 in
theorem qcopy_any (h : QI w base qb v st) (hn : st.fs.length ≤ 1000000) :
    Calls Try.prog 20 #[.pointer (some ⟨qb, 0, none⟩)] w (QCopied w st) := by
  obtain ⟨A, c, hv, hlc, hcm⟩ := h.row.form
  subst hv
  obtain ⟨g, hg1, hsh⟩ := h.row.shows
  have HQ := Lib.hid (fun w1 (hb : Below w.heap.size w w1) => (h.below hb).box)
  have HS := Lib.hid hsh
  have HC := Lib.hid (fun w1 (hb : Below w.heap.size w w1) => And.intro (HQ.out w1 hb).c0 (And.intro (HQ.out w1 hb).c1 (And.intro (HQ.out w1 hb).c2 (HQ.out w1 hb).c3)))
  have c0 := h.box.c0
  have c1 := h.box.c1
  have c2 := h.box.c2
  have c3 := h.box.c3
  have HN := Lib.hid hn
  clear h hsh hlc hcm hg1
  go_enter Try.func20, Try.ntmps20
  go_upto_region 2 with fail
  go_region_held3 (fun w' => w'.cell? ⟨qb, 0, none⟩ = some (.slice A st.fs.length c) ∧ w'.cell? ⟨qb, 1, none⟩ = some (.int .i64 st.room) ∧ w'.cell? ⟨qb, 2, none⟩ = some (.int .i64 st.fuse) ∧ w'.cell? ⟨qb, 3, none⟩ = some (.bool st.down)) (first
      | exact HC.out _ (below_drew1 (Below.refl _ _))
      | exact HC.out _ HB8.out
      | exact HC.out _ (HB8.out.alloc HB8.out.size _))
    (first
      | (refine step_appendG0 fileC _ rfl (.tmp 4) (.tmp 8) 51 rfl w.heap.size 64 (.agg #[.string ⟨#[]⟩, .string ⟨#[]⟩, .int .i64 0]) 40 Try.underlying51 infoFile rfl (.slice none 0 0) [] rfl (OwnG.nil_ _ _ _ _) g (.slice A st.fs.length c) st.fs rfl (HS.out.keep (w' := w.drew) (Nat.le_refl _) fun _ => rfl) (by have := HN.out; simp; omega) (by have := HN.out; simp; omega) (Nat.le_refl _) ?_
         intro v8 w8 ho8 hg8
         have hb8 : Below w.heap.size w w8 := (below_drew1 (Below.refl w.heap.size w)).grown hg8 (Nat.le_refl _) (fun j (hj : (none : Option Nat) = some j) => by cases hj)
         obtain ⟨A9, n9, c9, rfl⟩ : ∃ A n c, v8 = .slice A n c := by
           obtain ⟨A, c, e, _⟩ := ho8.form
           exact ⟨_, _, _, e⟩
         have HE := Lib.hid (copied_end (st := st) hb8 ho8)
         have HB8 := Lib.hid hb8
         clear ho8 hg8 hb8))
  all_goals
    go_wp2_with fail
    go_ret
    exact HE.out
end

end Go.Proofs.Ytngjmeohleoglaa
