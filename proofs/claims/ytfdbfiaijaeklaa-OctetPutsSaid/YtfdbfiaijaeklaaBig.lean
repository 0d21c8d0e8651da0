/-
  The appends of OctetPuts, for texts and slices that are together a little more than 2^47 bytes; the contracts of octet.PutText and of the document's Put and PutText.
  Conditions: a slice of at most 2^47 - 4096 bytes.
-/
import Derived.Test.YtfdbfiaijaeklaaQ
namespace Go.Proofs.Ytfdbfiaijaeklaa
open Go.RowKit
set_option linter.unusedVariables false
set_option linter.unusedSimpArgs false

theorem grow_fits {need old : Nat} (h : old < need) (hb : need ≤ 140746078289920) : Builtin.nextslicecap need old ≤ 281474976710656 := by
  unfold Builtin.nextslicecap
  split
  · omega
  · split
    · omega
    · rw [growBy_four]
      repeat' split
      all_goals omega

/-- A new row behind a growth. -/
theorem grown_row {w : World} {base : Nat} {e : TypeId} (l m : List UInt8) (old : Nat) (hbase : base ≤ w.heap.size) (hm : l.length + m.length ≤ maxLen) (row : Option Nat) (cs : Array Value) (hcs : cs = (bs (l ++ m)).toArray ++ Builtin.zeroCells (Value.int .u8 0).cells (grownCap w (l.length + m.length) old e - (l.length + m.length))) :
    Own e (w.drew.alloc (.cells cs e)) base (.slice (some ⟨w.heap.size, 0, none⟩) (l.length + m.length) (grownCap w (l.length + m.length) old e)) (l ++ m) ∧ w.grownBy (w.drew.alloc (.cells cs e)) row := by
  subst hcs
  have hge := grownCap_ge w (l.length + m.length) old e
  have hcm := grownCap_le_maxLen w (l.length + m.length) old e hm
  have hz1 : (Value.int IntKind.u8 0).cells.size = 1 := rfl
  refine ⟨⟨by simp [bs], .inr ⟨w.heap.size, _, _, by rw [List.length_append], hbase, heap_alloc_new w.drew _, by rw [List.length_append]; exact hge, hcm, ?_, ?_⟩⟩, ⟨rfl, rfl, rfl, by simp, fun k hk _ => Below.heap_alloc w.drew _ k hk⟩⟩
  · simp only [Array.size_append, List.size_toArray, size_zeroCells, hz1, bs_length, List.length_append]
    omega
  · simp only [Array.toList_append, Nat.mul_one]
    rw [← bs_length (l ++ m)]
    exact List.take_left

/-- 'append' of shown bytes, together at most 2^47 + 2^33. -/
theorem run_append_big8 {P : Program} (w : World) (base : Nat) (t ty e : TypeId) (i : TypeInfo) (ht : P.underlying t = some (.slice e)) (hi : P.info? e = some i) (hz : i.zero = some (.int .u8 0))
    (hsize : i.size = 1) (hby : i.bytes = 1) (v : Value) (l : List UInt8) (hown : Own e w base v l) (d : Nat) (x : Value) (m : List UInt8) (hx : Shows w d x m)
    (hb : l.length + m.length ≤ 140746078289920) (hbase : base ≤ w.heap.size) :
    ∃ v' w', (Builtin.append_ #[t, t] ty #[v, x]).run P w = .ok v' w' ∧ Own e w' base v' (l ++ m) ∧ w.grownBy w' v.ownBlock := by
  by_cases hsm : l.length + m.length ≤ 140737488355328
  · exact run_append_own8 w base t ty e i ht hi hz hsize hby v l hown d x m hx hsm hbase
  · have h63 : l.length + m.length ≤ maxLen := by simp only [maxLen]; omega
    by_cases hm : 0 < m.length
    · obtain ⟨A, c, rfl, hmc, hcm, hcell⟩ := hx
      obtain ⟨o, rfl, _, hc⟩ := hcell hm
      have hnews : ∀ j u, (bs m)[j]? = some u → w.cell? ((⟨d, o, none⟩ : Addr).add j) = some u := fun j u hu => by obtain ⟨hj, rfl⟩ := bs_get hu; rw [add_plain']; exact hc j hj
      have hml : (bs m).length = m.length * i.size := by simp [bs, hsize]
      rcases hown.2 with ⟨rfl, hn⟩ | ⟨g, cap, cur, rfl, hbg, hg, hnc, hcmx, hcs, htake⟩
      · have : l = [] := List.eq_nil_of_length_eq_zero hn
        subst this
        have hr := run_append_nil (P := P) w t ty e i (.int .u8 0) ht hi hz ⟨d, o, none⟩ m.length c (bs m) hml hnews hm (by simp only [maxLen] at h63; simp at h63; omega) (by rw [hby]; simp at hb; omega)
        have hgr := grown_row (e := e) [] m 0 hbase h63 (Value.ownBlock (.slice none 0 0)) _ rfl
        simp only [List.length_nil, Nat.zero_add, List.nil_append] at hgr ⊢
        exact ⟨_, _, hr, hgr.1, hgr.2⟩
      · by_cases hroom : l.length + m.length ≤ cap
        · have hr := run_append_room (P := P) w t ty e i ht hi g l.length cap cur hg ⟨d, o, none⟩ m.length c (bs m) hml hnews (bs_one m) hroom (by rw [hsize, bs_length]; omega)
          refine ⟨_, _, hr, ⟨by simp [bs], .inr ⟨g, cap, _, by rw [List.length_append], hbg, setRow_heap w g cur _ e _ hg, by rw [List.length_append]; exact hroom, hcmx, ?_, ?_⟩⟩, ⟨rfl, rfl, rfl, by simp, fun k _ hk => setRow_other w g k _ (fun e => hk (by simp [Value.ownBlock, e]))⟩⟩
          · rw [hsize]
            simp only [List.size_toArray, List.length_append, List.length_take, List.length_drop, Array.length_toList, bs_length]
            omega
          · have ht' : cur.toList.take (l.length * i.size) = bs l := by rw [hsize]; exact htake
            rw [ht', ← bs_append, Nat.mul_one, ← bs_length (l ++ m)]
            exact List.take_left
        · have holds : ∀ j u, (bs l)[j]? = some u → w.cell? ((⟨g, 0, none⟩ : Addr).add j) = some u := World.ownsRow.cells hown (g := g) rfl
          have hr := run_append_grow (P := P) w t ty e i (.int .u8 0) ht hi hz ⟨g, 0, none⟩ l.length cap (bs l) (by simp [bs, hsize]) holds ⟨d, o, none⟩ m.length c (bs m) hml hnews (by omega) (by simp only [maxLen] at h63; omega) (by rw [hby, Nat.mul_one]; exact grow_fits (by omega) hb)
          have hgr := grown_row (e := e) l m cap hbase h63 (Value.ownBlock (.slice (some ⟨g, 0, none⟩) l.length cap)) _ rfl
          refine ⟨_, _, hr, ?_, ?_⟩
          · have := hgr.1
            rw [bs_append] at this
            simpa using this
          · have := hgr.2
            rw [bs_append] at this
            simpa using this
    · have : m = [] := List.eq_nil_of_length_eq_zero (by omega)
      subst this
      rw [List.append_nil]
      obtain ⟨A, c, rfl, hmc, hcm, hcell⟩ := hx
      refine ⟨v, w, ?_, hown, ⟨rfl, rfl, rfl, Nat.le_refl _, fun _ _ _ => rfl⟩⟩
      have h0 : ∀ a : Addr, (loadCells a 0).run P w = .ok #[] w := fun a => by simpa using run_loadCells_list (P := P) w a [] (by simp)
      rcases hown.2 with ⟨rfl, hn⟩ | ⟨g, cap, cur, rfl, _, _, hnc, _⟩
      · rcases A with _ | a <;> simp [Builtin.append_, run_underlying ht, sizeOf, typeInfo, hi, Builtin.lenOf, Builtin.firstCells, h0]
      · rcases A with _ | a <;> simp [Builtin.append_, run_underlying ht, sizeOf, typeInfo, hi, Builtin.lenOf, Builtin.firstCells, hnc, storeCells, h0]

/-- The same of a string's bytes. -/
theorem run_append_big8s {P : Program} (w : World) (base : Nat) (t u ty e : TypeId) (i : TypeInfo) (ht : P.underlying t = some (.slice e)) (hu : P.underlying u = some .string) (hi : P.info? e = some i) (hz : i.zero = some (.int .u8 0))
    (hsize : i.size = 1) (hby : i.bytes = 1) (v : Value) (l : List UInt8) (hown : Own e w base v l) (s : ByteArray)
    (hb : l.length + s.size ≤ 140746078289920) (hbase : base ≤ w.heap.size) :
    ∃ v' w', (Builtin.append_ #[t, u] ty #[v, .string s]).run P w = .ok v' w' ∧ Own e w' base v' (l ++ sb s) ∧ w.grownBy w' v.ownBlock := by
  by_cases hsm : l.length + s.size ≤ 140737488355328
  · obtain ⟨v', w', h1, h2, h3, _⟩ := Lib.run_append_own_string (P := P) w base t u ty e i ht hu hi hz hsize hby v l.length (bs l) hown s (by simp only [maxLen]; omega) hsm hbase
    refine ⟨v', w', h1, ?_, h3⟩
    unfold Own
    rw [bs_append, List.length_append, sb_length]
    exact h2
  · have h63 : l.length + s.size ≤ maxLen := by simp only [maxLen]; omega
    have hsl := sb_length s
    rcases hown.2 with ⟨rfl, hn⟩ | ⟨g, cap, cur, rfl, hbg, hg, hnc, hcmx, hcs, htake⟩
    · have : l = [] := List.eq_nil_of_length_eq_zero hn
      subst this
      have hr := run_append_nil_string (P := P) w t u ty e i (.int .u8 0) ht hu hi hz s (by simp at hsm; omega) (by simp only [maxLen] at h63; simp at h63; omega) (by rw [hby]; simp at hb; omega)
      have hgr := grown_row (e := e) [] (sb s) 0 hbase (by rw [hsl]; exact h63) (Value.ownBlock (.slice none 0 0)) _ rfl
      simp only [List.length_nil, Nat.zero_add, List.nil_append, hsl] at hgr ⊢
      have e1 : (s.data.map fun b => Value.int .u8 b.toNat) = (bs (sb s)).toArray := by
        apply Array.ext'
        simp [bs, sb, u8c, Function.comp_def]
      rw [e1] at hr
      exact ⟨_, _, hr, hgr.1, hgr.2⟩
    · by_cases hroom : l.length + s.size ≤ cap
      · have hr := Lib.run_append_room_string (P := P) w t u ty e i ht hu hi hsize g l.length cap cur hg s hroom (by omega)
        refine ⟨_, _, hr, ⟨by simp [bs], .inr ⟨g, cap, _, by rw [List.length_append, hsl], hbg, setRow_heap w g cur _ e _ hg, by rw [List.length_append, hsl]; exact hroom, hcmx, ?_, ?_⟩⟩, ⟨rfl, rfl, rfl, by simp, fun k _ hk => setRow_other w g k _ (fun e => hk (by simp [Value.ownBlock, e]))⟩⟩
        · simp only [List.size_toArray, List.length_append, List.length_take, List.length_drop, Array.length_toList, Lib.strCells_length]
          omega
        · have ht' : cur.toList.take l.length = bs l := by simpa using htake
          rw [ht', strCells_sb, ← bs_append, Nat.mul_one, ← bs_length (l ++ sb s)]
          exact List.take_left
      · have holds : ∀ j u, (bs l)[j]? = some u → w.cell? ((⟨g, 0, none⟩ : Addr).add j) = some u := World.ownsRow.cells hown (g := g) rfl
        have hr := Lib.run_append_grow_string (P := P) w t u ty e i (.int .u8 0) ht hu hi hz ⟨g, 0, none⟩ l.length cap (bs l) (by simp [bs, hsize]) holds s (by omega) (by simp only [maxLen] at h63; omega) (by rw [hby, Nat.mul_one]; exact grow_fits (by omega) hb)
        have hgr := grown_row (e := e) l (sb s) cap hbase (by rw [hsl]; exact h63) (Value.ownBlock (.slice (some ⟨g, 0, none⟩) l.length cap)) _ rfl
        rw [hsl, bs_append] at hgr
        rw [strCells_sb] at hr
        refine ⟨_, _, hr, ?_, ?_⟩
        · simpa using hgr.1
        · simpa using hgr.2

theorem wpList_big8 {P : Program} (w : World) {ops : Array Oper} {rest : List Oper} {o : Oper} {a : Act} {Q : Exit → Act → World → Prop} (hgd : o.guard = none) (s x : Operand) (t : TypeId)
    (ho : o.op = .call { callee := .builtin .append, args := #[s, x], argTypes := #[t, t] })
    (base : Nat) (e : TypeId) (ht : P.underlying t = some (.slice e)) (hi : (P.info? e).map (fun i => (i.zero, i.size, i.bytes)) = some (some (.int .u8 0), 1, 1))
    (v : Value) (l : List UInt8) (hs : a.eval s = v) (hown : Own e w base v l) (d : Nat) (y : Value) (m : List UInt8) (hx : a.eval x = y) (hm : Shows w d y m)
    (hb : l.length + m.length ≤ 140746078289920) (hbase : base ≤ w.heap.size)
    (h : ∀ v' w', Own e w' base v' (l ++ m) → w.grownBy w' v.ownBlock → wpList P ops Q rest (a.put o.dst v') w') : wpList P ops Q (o :: rest) a w := by
  obtain ⟨i, hi0, hz, hs1, hb1⟩ := info_parts hi
  obtain ⟨v', w', hr, h2, h3⟩ := run_append_big8 (P := P) w base t o.type e i ht hi0 hz hs1 hb1 v l hown d y m hm hb hbase
  refine wpList_plain hgd fun K hK => ?_
  unfold Oper.wp execOp
  simp only [ho, resolve, invoke, builtin, Sem.run_bind, Sem.run_pure, Result.andThen_ok, List.map_toArray, List.map_cons, List.map_nil, hs, hx, hr]
  exact hK _ _ (h v' w' h2 h3)

theorem wpList_big8s {P : Program} (w : World) {ops : Array Oper} {rest : List Oper} {o : Oper} {a : Act} {Q : Exit → Act → World → Prop} (hgd : o.guard = none) (sl x : Operand) (t u : TypeId)
    (ho : o.op = .call { callee := .builtin .append, args := #[sl, x], argTypes := #[t, u] })
    (base : Nat) (e : TypeId) (ht : P.underlying t = some (.slice e)) (hu : P.underlying u = some .string) (hi : (P.info? e).map (fun i => (i.zero, i.size, i.bytes)) = some (some (.int .u8 0), 1, 1))
    (v : Value) (l : List UInt8) (hs : a.eval sl = v) (hown : Own e w base v l) (s : ByteArray) (hx : a.eval x = .string s)
    (hb : l.length + s.size ≤ 140746078289920) (hbase : base ≤ w.heap.size)
    (h : ∀ v' w', Own e w' base v' (l ++ sb s) → w.grownBy w' v.ownBlock → wpList P ops Q rest (a.put o.dst v') w') : wpList P ops Q (o :: rest) a w := by
  obtain ⟨i, hi0, hz, hs1, hb1⟩ := info_parts hi
  obtain ⟨v', w', hr, h2, h3⟩ := run_append_big8s (P := P) w base t u o.type e i ht hu hi0 hz hs1 hb1 v l hown s hb hbase
  refine wpList_plain hgd fun K hK => ?_
  unfold Oper.wp execOp
  simp only [ho, resolve, invoke, builtin, Sem.run_bind, Sem.run_pure, Result.andThen_ok, List.map_toArray, List.map_cons, List.map_nil, hs, hx, hr]
  exact hK _ _ (h v' w' h2 h3)

set_option maxHeartbeats 400000 in
theorem joined_big_s (A1 A2 : Option Addr) (c1 c2 n1 n2 : Nat) (l1 l2 : List UInt8) (d1 d2 : Nat) (w : World) (e1 : l1.length = n1) (e2 : l2.length = n2) (h1 : Shows w d1 (.slice A1 n1 c1) l1) (h2 : Shows w d2 (.slice A2 n2 c2) l2) (hl : n1 + n2 ≤ 140746078289920) :
    Calls Try.prog 24 #[.slice A1 n1 c1, .slice A2 n2 c2] w fun e w' => ∃ v, e = .returned v ∧ Own 5 w' w.heap.size v (l1 ++ l2) ∧ Below w.heap.size w w' := by
  have E1 := Lib.hid e1
  have E2 := Lib.hid e2
  clear e1 e2
  obtain ⟨i, hi, hz, hs, hb⟩ := info_parts info5
  have hby : i.bytes * (n1 + n2) ≤ 281474976710656 := by rw [hb]; omega
  have HI := Lib.hid hi
  have HZ := Lib.hid hz
  have HS := Lib.hid hs
  clear hi hz hs hb
  go_enter Try.func24, Try.ntmps24
  go_wp2_with (first
    | (at_make
       refine wpList_make_own _ rfl (.const (.int .i64 0)) (.tmp 10) 22 rfl w.heap.size 5 i (.int .u8 0) 1 Try.underlying22 HI.out HZ.out HS.out .i64 .i64 _ (n1 + n2) rfl rfl (by omega) hby (by simp only [maxLen]; omega) (Nat.le_refl _) ?_
       intro w1 ho1' hg1
       have ho1 : Own 5 w1 w.heap.size (.slice (some ⟨w.heap.size, 0, none⟩) 0 (n1 + n2)) [] := ho1'
       clear ho1'
       have hb1 : Below w.heap.size w w1 := (Below.refl _ _).grown hg1 (Nat.le_refl _) (by simp)
       have hz1 := hb1.size
       have hd1 := h1.grown hg1 (by simp)
       have hd2 := h2.grown hg1 (by simp))
    | (at_builtin
       refine wpList_big8 _ rfl (.tmp 12) (.tmp 13) 22 rfl w.heap.size 5 Try.underlying22 info5 _ [] rfl ho1 d1 (.slice A1 n1 c1) l1 rfl hd1 (by simp [E1.out]; omega) hz1 ?_
       intro v2 w2 ho2 hg2
       have hb2 : Below w.heap.size w w2 := hb1.grown hg2 hz1 (fun k hk => (ho1.block k hk).1)
       have hz2 := hb2.size
       have hd3 : Shows w2 d2 (.slice A2 n2 c2) l2 := h2.keep hz2 (fun hp => hb2.block _ (h2.lt hp)))
    | (at_builtin
       refine wpList_big8 _ rfl (.tmp 15) (.tmp 16) 22 rfl w.heap.size 5 Try.underlying22 info5 v2 _ rfl ho2 d2 (.slice A2 n2 c2) l2 rfl hd3 (by simp [E1.out, E2.out]; omega) hz2 ?_
       intro v3 w3 ho3 hg3))
  go_ret
  exact ⟨v3, rfl, ho3, hb2.grown hg3 hz2 (fun k hk => (ho2.block k hk).1)⟩

theorem joined_big (v1 v2 : Value) (l1 l2 : List UInt8) (d1 d2 : Nat) (w : World) (h1 : Shows w d1 v1 l1) (h2 : Shows w d2 v2 l2) (hl : l1.length + l2.length ≤ 140746078289920) :
    Calls Try.prog 24 #[v1, v2] w fun e w' => ∃ v, e = .returned v ∧ Own 5 w' w.heap.size v (l1 ++ l2) ∧ Below w.heap.size w w' := by
  have k1 := h1
  have k2 := h2
  obtain ⟨A1, c1, rfl, _⟩ := h1
  obtain ⟨A2, c2, rfl, _⟩ := h2
  exact joined_big_s A1 A2 c1 c2 _ _ l1 l2 d1 d2 w rfl rfl k1 k2 hl

theorem be_cons : ∀ (k n : Nat), be (k + 1) n = UInt8.ofNat (n / 256 ^ k) :: be k n
  | 0, n => by simp [be]
  | k + 1, n => by
    show be (k + 1) (n / 256) ++ [UInt8.ofNat n] = _
    rw [be_cons k (n / 256), List.cons_append, Nat.div_div_eq_div_mul, Nat.pow_succ, Nat.mul_comm 256]
    rfl

theorem Own.lit {w : World} {base : Nat} {e : TypeId} {cs : Array Value} (l : List UInt8) (h : cs = (bs l).toArray) (hl : l.length ≤ maxLen) (hb : base ≤ w.heap.size) :
    Own e (w.alloc (.cells cs e)) base (.slice (some ⟨w.heap.size, 0, none⟩) l.length l.length) l := by
  subst h
  have := World.ownsRow_lit (w := w) (e := e) (base := base) (size := 1) (bs l).toArray l.length hb hl (by simp [bs])
  simpa [Own] using this


set_option maxHeartbeats 400000 in
theorem putText_big1 (v : Value) (l : List UInt8) (d : Nat) (s : ByteArray) (w : World) (hv : Shows w d v l) (hl : l.length ≤ 140737488351232) (h : s.size < 256) :
    Calls Try.prog 9 #[v, .string s, .int .i64 1] w fun e w' => ∃ v', e = .returned (.tuple #[v', .int .i64 0]) ∧ Own 5 w' w.heap.size v' (l ++ (be 1 s.size ++ sb s)) ∧ Below w.heap.size w w' := by
  have ht : ((s.size : Int) / 256 != 0) = false := by simp; omega
  have hsl := sb_length s
  have HSL := Lib.hid hsl
  clear hsl
  go_enter Try.func9, Try.ntmps9
  go_wp2_with fail
  refine (isText_yes 1 _ rfl).mono ?_
  rintro e w' ⟨rfl, rfl⟩
  go_wp2_with fail
  refine (digits_any s.size 1 _).mono ?_
  rintro e w1 ⟨v1, rfl, ho1, hb1⟩
  have hz1 := hb1.size
  go_wp2_with (at_builtin
               refine wpList_append8s _ rfl (.tmp 23) (.tmp 24) 22 9 rfl w.heap.size 5 Try.underlying22 Try.underlying9 info5 v1 _ rfl ho1 s rfl (by rw [be_length]; have := wd_le 1; omega) hz1 ?_
               intro v2 w2 ho2 hg2
               have hb2 : Below w.heap.size w w2 := hb1.grown hg2 hz1 (fun k hk => (ho1.block k hk).1)
               have hz2 := hb2.size)
  obtain ⟨g2, _, hs2⟩ := ho2.shows
  refine (joined_big v v2 l _ d g2 w2 (hv.keep hz2 fun hp => hb2.block _ (hv.lt hp)) hs2 (by rw [List.length_append, be_length, HSL.out]; have := wd_le 1; omega)).mono ?_
  rintro e w3 ⟨v3, rfl, ho3, hb3⟩
  go_wp2_with fail
  go_ret2
  exact ⟨v3, rfl, ho3.mono hz2, hb2.trans (hb3.mono hz2)⟩

set_option maxHeartbeats 400000 in
theorem putText_big2 (v : Value) (l : List UInt8) (d : Nat) (s : ByteArray) (w : World) (hv : Shows w d v l) (hl : l.length ≤ 140737488351232) (h : s.size < 65536) :
    Calls Try.prog 9 #[v, .string s, .int .i64 2] w fun e w' => ∃ v', e = .returned (.tuple #[v', .int .i64 0]) ∧ Own 5 w' w.heap.size v' (l ++ (be 2 s.size ++ sb s)) ∧ Below w.heap.size w w' := by
  have ht : ((s.size : Int) / 65536 != 0) = false := by simp; omega
  have hsl := sb_length s
  have HSL := Lib.hid hsl
  clear hsl
  go_enter Try.func9, Try.ntmps9
  go_wp2_with fail
  refine (isText_yes 2 _ rfl).mono ?_
  rintro e w' ⟨rfl, rfl⟩
  go_wp2_with fail
  refine (digits_any s.size 2 _).mono ?_
  rintro e w1 ⟨v1, rfl, ho1, hb1⟩
  have hz1 := hb1.size
  go_wp2_with (at_builtin
               refine wpList_append8s _ rfl (.tmp 23) (.tmp 24) 22 9 rfl w.heap.size 5 Try.underlying22 Try.underlying9 info5 v1 _ rfl ho1 s rfl (by rw [be_length]; have := wd_le 2; omega) hz1 ?_
               intro v2 w2 ho2 hg2
               have hb2 : Below w.heap.size w w2 := hb1.grown hg2 hz1 (fun k hk => (ho1.block k hk).1)
               have hz2 := hb2.size)
  obtain ⟨g2, _, hs2⟩ := ho2.shows
  refine (joined_big v v2 l _ d g2 w2 (hv.keep hz2 fun hp => hb2.block _ (hv.lt hp)) hs2 (by rw [List.length_append, be_length, HSL.out]; have := wd_le 2; omega)).mono ?_
  rintro e w3 ⟨v3, rfl, ho3, hb3⟩
  go_wp2_with fail
  go_ret2
  exact ⟨v3, rfl, ho3.mono hz2, hb2.trans (hb3.mono hz2)⟩

set_option maxHeartbeats 400000 in
theorem putText_big4 (v : Value) (l : List UInt8) (d : Nat) (s : ByteArray) (w : World) (hv : Shows w d v l) (hl : l.length ≤ 140737488351232) (h : s.size < 4294967296) :
    Calls Try.prog 9 #[v, .string s, .int .i64 4] w fun e w' => ∃ v', e = .returned (.tuple #[v', .int .i64 0]) ∧ Own 5 w' w.heap.size v' (l ++ (be 4 s.size ++ sb s)) ∧ Below w.heap.size w w' := by
  have ht : ((s.size : Int) / 4294967296 != 0) = false := by simp; omega
  have hsl := sb_length s
  have HSL := Lib.hid hsl
  clear hsl
  go_enter Try.func9, Try.ntmps9
  go_wp2_with fail
  refine (isText_yes 4 _ rfl).mono ?_
  rintro e w' ⟨rfl, rfl⟩
  go_wp2_with fail
  refine (digits_any s.size 4 _).mono ?_
  rintro e w1 ⟨v1, rfl, ho1, hb1⟩
  have hz1 := hb1.size
  go_wp2_with (at_builtin
               refine wpList_append8s _ rfl (.tmp 23) (.tmp 24) 22 9 rfl w.heap.size 5 Try.underlying22 Try.underlying9 info5 v1 _ rfl ho1 s rfl (by rw [be_length]; have := wd_le 4; omega) hz1 ?_
               intro v2 w2 ho2 hg2
               have hb2 : Below w.heap.size w w2 := hb1.grown hg2 hz1 (fun k hk => (ho1.block k hk).1)
               have hz2 := hb2.size)
  obtain ⟨g2, _, hs2⟩ := ho2.shows
  refine (joined_big v v2 l _ d g2 w2 (hv.keep hz2 fun hp => hb2.block _ (hv.lt hp)) hs2 (by rw [List.length_append, be_length, HSL.out]; have := wd_le 4; omega)).mono ?_
  rintro e w3 ⟨v3, rfl, ho3, hb3⟩
  go_wp2_with fail
  go_ret2
  exact ⟨v3, rfl, ho3.mono hz2, hb2.trans (hb3.mono hz2)⟩

set_option maxHeartbeats 400000 in
theorem number_any (k N : Nat) (w : World) (hk : k ≤ 8) (hN : N < 18446744073709551616) :
    Calls Try.prog 29 #[.int .u64 N, .int .i64 k] w fun e w' => ∃ v, e = .returned v ∧ Own 5 w' w.heap.size v (be k N) ∧ Below w.heap.size w w' := by
  go_enter Try.func29, Try.ntmps29
  go_wp2_with fail
  go_loopw [0, 5, 6] (fun s0 s5 s6 wr => ∃ j : Nat, j ≤ k ∧ s6 = .int .i64 j ∧ s0 = .int .u64 (N / 256 ^ j : Nat) ∧ Own 5 wr w.heap.size s5 (be j N) ∧ Below w.heap.size w wr) (fun _ _ i _ => k - (intOf i).toNat)
  case atStart => exact ⟨0, Nat.zero_le _, rfl, by simp, Own.nil_ _ _ _, Below.refl _ _⟩
  case round =>
    obtain ⟨j, hj, rfl, rfl, ho, hbr⟩ := hrel
    by_cases hlt : j < k
    · have hx : N / 256 ^ j ≤ N := Nat.div_le_self _ _
      have hd : N / 256 ^ j / 256 = N / 256 ^ (j + 1) := by rw [Nat.div_div_eq_div_mul, Nat.pow_succ]
      have HD := Lib.hid hd
      have hbe := be_cons j N
      have HBE := Lib.hid hbe
      clear hd hbe
      generalize N / 256 ^ j = x at *
      obtain ⟨go, _, hso⟩ := ho.shows
      have hz := hbr.size
      have hjl := be_length j N
      have HJL := Lib.hid hjl
      clear hjl
      go_wp2_with (at_builtin
                   refine wpList_append8 _ rfl (.tmp 15) (.tmp 16) 22 rfl w.heap.size 5 Try.underlying22 info5 (.slice (some ⟨wr.heap.size, 0, none⟩) 1 1) [UInt8.ofNat x] rfl (Own.lit (w := wr) [UInt8.ofNat x] (by simp [bs, u8c]) (by simp [maxLen]) hz) go u5 (be j N) rfl (hso.keep (by simp) (fun hp => Below.heap_alloc _ _ _ (hso.lt hp))) (by rw [HJL.out]; simp; omega) (by simp; omega) ?_
                   intro v1 w1 ho1 hg1
                   have hb1 : Below w.heap.size w w1 := (hbr.alloc hz _).grown hg1 (by simp; omega) (fun k hk => by simp [Value.ownBlock] at hk; omega))
      go_roundw
      case rel => exact ⟨j + 1, by omega, by go_num, by rw [← HD.out]; go_num, by rw [HBE.out]; exact ho1, hb1⟩
      case measure => simp [intOf]; omega
    · have : j = k := by omega
      have HJ := Lib.hid this
      clear this
      go_wp2_with fail
      go_ret
      rw [HJ.out] at ho
      exact ⟨_, rfl, ho, hbr⟩

set_option maxHeartbeats 400000 in
theorem qput_yes (v : Value) (l : List UInt8) (d n : Nat) (q : Int) (w : World) (h : Shows w d v l) (hl : l.length ≤ 140737488355320) (hn : n < 18446744073709551616) (hq : num q = true) :
    Calls Try.prog 12 #[v, .int .u64 n, .int .i64 q] w fun e w' => ∃ v', e = .returned v' ∧ Own 5 w' w.heap.size v' (l ++ be (wd q) n) ∧ Below w.heap.size w w' := by
  have hqw : q = (wd q : Nat) := by
    have h : q = 1 ∨ q = 2 ∨ q = 4 ∨ q = 8 := by simpa [num] using hq
    rcases h with rfl | rfl | rfl | rfl <;> rfl
  have hq8 := wd_le q
  have HQ := Lib.hid hq
  have HQW := Lib.hid hqw
  clear hq hqw
  go_enter Try.func12, Try.ntmps12
  go_wp2_with (at_builtin
               refine wpList_append8 _ rfl (.tmp 8) (.tmp 9) 22 rfl w.heap.size 5 Try.underlying22 info5 (.slice none 0 0) [] rfl (Own.nil_ _ _ _) d v l rfl h (by simp; omega) (Nat.le_refl _) ?_
               intro v1 w1 ho1 hg1
               rw [List.nil_append] at ho1
               have hb1 : Below w.heap.size w w1 := (Below.refl _ _).grown hg1 (Nat.le_refl _) (by simp [Value.ownBlock])
               have hz1 := hb1.size)
  refine (width_yes q _ HQ.out).mono ?_
  rintro e w' ⟨rfl, rfl⟩
  go_wp2_with fail
  rw [HQW.out]
  refine (number_any (wd q) n _ hq8 hn).mono ?_
  rintro e w2 ⟨v2, rfl, ho2, hb2⟩
  have hB2 : Below w.heap.size w w2 := hb1.trans (hb2.mono hz1)
  have hz2 := hB2.size
  obtain ⟨g2, _, hs2⟩ := ho2.shows
  have ho1' : Own 5 w2 w.heap.size v1 l := ho1.keep fun k hk => hb2.block _ (ho1.block k hk).2
  have hbl := be_wd_length q n
  go_wp2_with (at_builtin
               refine wpList_append8 _ rfl (.tmp 15) (.tmp 18) 22 rfl w.heap.size 5 Try.underlying22 info5 v1 l rfl ho1' g2 v2 (be (wd q) n) rfl hs2 (by omega) hz2 ?_
               intro v3 w3 ho3 hg3)
  go_ret
  exact ⟨v3, rfl, ho3, hB2.grown hg3 hz2 (fun k hk => (ho1'.block k hk).1)⟩

set_option maxHeartbeats 400000 in
theorem qput_no (v : Value) (l : List UInt8) (d n : Nat) (q : Int) (w : World) (h : Shows w d v l) (hl : l.length ≤ 140737488355320) (hq : num q = false) :
    Calls Try.prog 12 #[v, .int .u64 n, .int .i64 q] w fun e w' => ∃ v', e = .returned v' ∧ Own 5 w' w.heap.size v' l ∧ Below w.heap.size w w' := by
  have HQ := Lib.hid hq
  clear hq
  go_enter Try.func12, Try.ntmps12
  go_wp2_with (at_builtin
               refine wpList_append8 _ rfl (.tmp 8) (.tmp 9) 22 rfl w.heap.size 5 Try.underlying22 info5 (.slice none 0 0) [] rfl (Own.nil_ _ _ _) d v l rfl h (by simp; omega) (Nat.le_refl _) ?_
               intro v1 w1 ho1 hg1
               rw [List.nil_append] at ho1
               have hb1 : Below w.heap.size w w1 := (Below.refl _ _).grown hg1 (Nat.le_refl _) (by simp [Value.ownBlock])
               have hz1 := hb1.size)
  refine (width_no q _ HQ.out).mono ?_
  rintro e w' ⟨rfl, rfl⟩
  go_wp2_with fail
  go_ret
  exact ⟨v1, rfl, ho1, hb1⟩

theorem qput_any (v : Value) (l : List UInt8) (d n : Nat) (q : Int) (w : World) (h : Shows w d v l) (hl : l.length ≤ 140737488355320) (hn : n < 18446744073709551616) :
    Calls Try.prog 12 #[v, .int .u64 n, .int .i64 q] w fun e w' => ∃ v', e = .returned v' ∧ Own 5 w' w.heap.size v' (l ++ be (wd q) n) ∧ Below w.heap.size w w' := by
  by_cases hq : num q = true
  · exact qput_yes v l d n q w h hl hn hq
  · have hq : num q = false := by simpa using hq
    have e : wd q = 0 := by simp [num] at hq; simp [wd, hq]
    rw [e]
    have := qput_no v l d n q w h hl hq
    simpa [be] using this

set_option maxHeartbeats 400000 in
theorem most1 (w : World) : Calls Try.prog 27 #[.int .i64 1] w fun e w' => e = .returned (.int .i64 255) ∧ w = w' := by
  go_enter Try.func27, Try.ntmps27
  go_wp2
  go_ret
  exact ⟨rfl, rfl⟩

set_option maxHeartbeats 400000 in
theorem qputText_long1 (v : Value) (s : ByteArray) (w : World) (hs : s.size ≤ 140737488355328) (h : 256 ≤ s.size) :
    Calls Try.prog 10 #[v, .string s, .int .i64 1] w fun e w' => e = .returned (.tuple #[.slice none 0 0, .int .i64 3]) ∧ w = w' := by
  have ht : decide ((255 : Int) < (s.size : Int)) = true := by simp; omega
  go_enter Try.func10, Try.ntmps10
  go_wp2_with fail
  refine (most1 _).mono ?_
  rintro e w' ⟨rfl, rfl⟩
  go_wp2_with fail
  go_ret2
  exact ⟨rfl, rfl⟩

set_option maxHeartbeats 400000 in
theorem qputText_ok1 (v : Value) (l : List UInt8) (d : Nat) (s : ByteArray) (w : World) (hv : Shows w d v l) (hl : l.length ≤ 140737488351232) (h : s.size < 256) :
    Calls Try.prog 10 #[v, .string s, .int .i64 1] w fun e w' => ∃ v', e = .returned (.tuple #[v', .int .i64 0]) ∧ Own 5 w' w.heap.size v' (l ++ (be 1 s.size ++ sb s)) ∧ Below w.heap.size w w' := by
  have ht : decide ((255 : Int) < (s.size : Int)) = false := by simp; omega
  have hbl := be_length 1 s.size
  have HBL := Lib.hid hbl
  clear hbl
  go_enter Try.func10, Try.ntmps10
  go_wp2_with fail
  refine (most1 _).mono ?_
  rintro e w' ⟨rfl, rfl⟩
  go_wp2_with fail
  refine (qput_any v l d s.size 1 _ hv (by omega) (by omega)).mono ?_
  rintro e w1 ⟨v1, rfl, ho1, hb1⟩
  have ho1' : Own 5 w1 w.heap.size v1 (l ++ be 1 s.size) := ho1
  have hz1 := hb1.size
  clear ho1
  go_wp2_with (at_builtin
               refine wpList_big8s _ rfl (.tmp 28) (.tmp 29) 22 9 rfl w.heap.size 5 Try.underlying22 Try.underlying9 info5 v1 _ rfl ho1' s rfl (by rw [List.length_append, HBL.out]; omega) hz1 ?_
               intro v2 w2 ho2 hg2
               rw [List.append_assoc] at ho2
               have hb2 : Below w.heap.size w w2 := hb1.grown hg2 hz1 (fun k hk => (ho1'.block k hk).1))
  go_ret2
  exact ⟨v2, rfl, ho2, hb2⟩

set_option maxHeartbeats 400000 in
theorem most2 (w : World) : Calls Try.prog 27 #[.int .i64 2] w fun e w' => e = .returned (.int .i64 65535) ∧ w = w' := by
  go_enter Try.func27, Try.ntmps27
  go_wp2
  go_ret
  exact ⟨rfl, rfl⟩

set_option maxHeartbeats 400000 in
theorem qputText_long2 (v : Value) (s : ByteArray) (w : World) (hs : s.size ≤ 140737488355328) (h : 65536 ≤ s.size) :
    Calls Try.prog 10 #[v, .string s, .int .i64 2] w fun e w' => e = .returned (.tuple #[.slice none 0 0, .int .i64 3]) ∧ w = w' := by
  have ht : decide ((65535 : Int) < (s.size : Int)) = true := by simp; omega
  go_enter Try.func10, Try.ntmps10
  go_wp2_with fail
  refine (most2 _).mono ?_
  rintro e w' ⟨rfl, rfl⟩
  go_wp2_with fail
  go_ret2
  exact ⟨rfl, rfl⟩

set_option maxHeartbeats 400000 in
theorem qputText_ok2 (v : Value) (l : List UInt8) (d : Nat) (s : ByteArray) (w : World) (hv : Shows w d v l) (hl : l.length ≤ 140737488351232) (h : s.size < 65536) :
    Calls Try.prog 10 #[v, .string s, .int .i64 2] w fun e w' => ∃ v', e = .returned (.tuple #[v', .int .i64 0]) ∧ Own 5 w' w.heap.size v' (l ++ (be 2 s.size ++ sb s)) ∧ Below w.heap.size w w' := by
  have ht : decide ((65535 : Int) < (s.size : Int)) = false := by simp; omega
  have hbl := be_length 2 s.size
  have HBL := Lib.hid hbl
  clear hbl
  go_enter Try.func10, Try.ntmps10
  go_wp2_with fail
  refine (most2 _).mono ?_
  rintro e w' ⟨rfl, rfl⟩
  go_wp2_with fail
  refine (qput_any v l d s.size 2 _ hv (by omega) (by omega)).mono ?_
  rintro e w1 ⟨v1, rfl, ho1, hb1⟩
  have ho1' : Own 5 w1 w.heap.size v1 (l ++ be 2 s.size) := ho1
  have hz1 := hb1.size
  clear ho1
  go_wp2_with (at_builtin
               refine wpList_big8s _ rfl (.tmp 28) (.tmp 29) 22 9 rfl w.heap.size 5 Try.underlying22 Try.underlying9 info5 v1 _ rfl ho1' s rfl (by rw [List.length_append, HBL.out]; omega) hz1 ?_
               intro v2 w2 ho2 hg2
               rw [List.append_assoc] at ho2
               have hb2 : Below w.heap.size w w2 := hb1.grown hg2 hz1 (fun k hk => (ho1'.block k hk).1))
  go_ret2
  exact ⟨v2, rfl, ho2, hb2⟩

set_option maxHeartbeats 400000 in
theorem most4 (w : World) : Calls Try.prog 27 #[.int .i64 4] w fun e w' => e = .returned (.int .i64 4294967295) ∧ w = w' := by
  go_enter Try.func27, Try.ntmps27
  go_wp2
  go_ret
  exact ⟨rfl, rfl⟩

set_option maxHeartbeats 400000 in
theorem qputText_long4 (v : Value) (s : ByteArray) (w : World) (hs : s.size ≤ 140737488355328) (h : 4294967296 ≤ s.size) :
    Calls Try.prog 10 #[v, .string s, .int .i64 4] w fun e w' => e = .returned (.tuple #[.slice none 0 0, .int .i64 3]) ∧ w = w' := by
  have ht : decide ((4294967295 : Int) < (s.size : Int)) = true := by simp; omega
  go_enter Try.func10, Try.ntmps10
  go_wp2_with fail
  refine (most4 _).mono ?_
  rintro e w' ⟨rfl, rfl⟩
  go_wp2_with fail
  go_ret2
  exact ⟨rfl, rfl⟩

set_option maxHeartbeats 400000 in
theorem qputText_ok4 (v : Value) (l : List UInt8) (d : Nat) (s : ByteArray) (w : World) (hv : Shows w d v l) (hl : l.length ≤ 140737488351232) (h : s.size < 4294967296) :
    Calls Try.prog 10 #[v, .string s, .int .i64 4] w fun e w' => ∃ v', e = .returned (.tuple #[v', .int .i64 0]) ∧ Own 5 w' w.heap.size v' (l ++ (be 4 s.size ++ sb s)) ∧ Below w.heap.size w w' := by
  have ht : decide ((4294967295 : Int) < (s.size : Int)) = false := by simp; omega
  have hbl := be_length 4 s.size
  have HBL := Lib.hid hbl
  clear hbl
  go_enter Try.func10, Try.ntmps10
  go_wp2_with fail
  refine (most4 _).mono ?_
  rintro e w' ⟨rfl, rfl⟩
  go_wp2_with fail
  refine (qput_any v l d s.size 4 _ hv (by omega) (by omega)).mono ?_
  rintro e w1 ⟨v1, rfl, ho1, hb1⟩
  have ho1' : Own 5 w1 w.heap.size v1 (l ++ be 4 s.size) := ho1
  have hz1 := hb1.size
  clear ho1
  go_wp2_with (at_builtin
               refine wpList_big8s _ rfl (.tmp 28) (.tmp 29) 22 9 rfl w.heap.size 5 Try.underlying22 Try.underlying9 info5 v1 _ rfl ho1' s rfl (by rw [List.length_append, HBL.out]; omega) hz1 ?_
               intro v2 w2 ho2 hg2
               rw [List.append_assoc] at ho2
               have hb2 : Below w.heap.size w w2 := hb1.grown hg2 hz1 (fun k hk => (ho1'.block k hk).1))
  go_ret2
  exact ⟨v2, rfl, ho2, hb2⟩

set_option maxHeartbeats 400000 in
theorem qputText_arg (v : Value) (s : ByteArray) (q : Int) (w : World) (hq : txt q = false) :
    Calls Try.prog 10 #[v, .string s, .int .i64 q] w fun e w' => e = .returned (.tuple #[.slice none 0 0, .int .i64 2]) ∧ w = w' := by
  obtain ⟨e1, e2, e4⟩ := txt_no hq
  have t1 : (q != 1) = true := by simp [bne, e1]
  have t2 : (q != 2) = true := by simp [bne, e2]
  have t4 : (q != 4) = true := by simp [bne, e4]
  clear hq e1 e2 e4
  go_enter Try.func10, Try.ntmps10
  go_wp2
  go_ret2
  exact ⟨rfl, rfl⟩

end Go.Proofs.Ytfdbfiaijaeklaa
