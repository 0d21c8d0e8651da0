/-
  Texts, together: ToP, ToW.
  Conditions: none but sizes.
-/
import Derived.Test.YtdjahdnaihijjaaGreatDoorGaLZ
import Derived.Test.YtdjahdnaihijjaaGreatDoorFrPZ
import Derived.Test.YtdjahdnaihijjaaGreatDoorFrWZ
import Derived.Test.YtdjahdnaihijjaaGreatDoorFrGZ
import Derived.Test.YtdjahdnaihijjaaGreatDoorFrAZ
/-
  Without the program: a message's frames, how many they are and how many bytes they have; what is told where the first one, or the last one, is left out.
  Conditions: none.
-/
namespace Go.Proofs.YtdjahdnaihijjaaGreatDoor
open Go.RowKit
set_option linter.unusedVariables false
set_option linter.unusedSimpArgs false

theorem to_cutP_len {n : Nat} (hn : 1 ≤ n) : ∀ (m : Nat) (l : List UInt8), l.length ≤ m → 1 ≤ (cutP n l).length ∧ (cutP n l).length ≤ l.length + 1
  | 0, l, h => by rw [cutP_end (by omega)]; simp
  | m + 1, l, h => by
    by_cases h2 : l.length ≤ n
    · rw [cutP_end h2]; simp
    · rw [cutP_more hn (by omega)]
      have h3 := to_cutP_len hn m (l.drop n) (by rw [List.length_drop]; omega)
      rw [List.length_drop] at h3
      rw [List.length_cons]
      omega
/-- The bytes of all frames' payloads. -/
def payL : List Fr → Nat
  | [] => 0
  | f :: r => f.p.size + payL r
theorem payL_app : ∀ (l m : List Fr), payL (l ++ m) = payL l + payL m
  | [], m => by simp [payL]
  | f :: r, m => by simp only [List.cons_append, payL, payL_app r m]; omega
theorem to_pieceF_len {a b : Bool} {t k ch : Nat} : ∀ (xs : List (List UInt8)) (c : Bool), (pieceF a b t k ch c xs).length = xs.length ∧ payL (pieceF a b t k ch c xs) = xs.flatten.length
  | [], c => by simp [pieceF, payL]
  | [x], c => by simp [pieceF, payL, str8_size]
  | x :: y :: r, c => by
    have h := to_pieceF_len (a := a) (b := b) (t := t) (k := k) (ch := ch) (y :: r) false
    simp only [pieceF, List.length_cons, payL, str8_size, List.flatten_cons, List.length_append] at h ⊢
    omega
theorem to_framesD_len {n k ch : Nat} (hn : 1 ≤ n) : ∀ (l : List Sg) (a : Bool), l.length ≤ (framesD n k ch a l).length ∧ (framesD n k ch a l).length ≤ sumS l + l.length ∧ payL (framesD n k ch a l) = sumS l
  | [], a => by simp [framesD, payL, sumS]
  | s :: r, a => by
    obtain ⟨h1, h2, h3⟩ := to_framesD_len (k := k) (ch := ch) hn r false
    have h4 := to_cutP_len hn _ (sb s.p) (Nat.le_refl _)
    have h5 := (cutP_flat hn _ (sb s.p) (Nat.le_refl _)).1
    have h6 := to_pieceF_len (a := a) (b := r.isEmpty) (t := s.t) (k := k) (ch := ch) (cutP n (sb s.p)) true
    rw [h5] at h6
    rw [sb_length] at h4 h6
    simp only [framesD, segF, List.length_append, List.length_cons, payL_app, sumS]
    omega
theorem encL_size : ∀ l : List Fr, (encL l).length = 12 * l.length + payL l
  | [] => rfl
  | f :: r => by
    have h := encL_size r
    show (encF f ++ encL r).length = _
    rw [List.length_append, encF_length, h, List.length_cons]
    simp only [payL]
    omega

/-- What is fed of frames where one of them is left out. -/
def leave (out : Nat) : Nat → List Fr → List Fr
  | _, [] => []
  | i, f :: r => if i = out then leave out (i + 1) r else f :: leave out (i + 1) r
theorem leave_past {out : Nat} : ∀ (l : List Fr) (i : Nat), out < i → leave out i l = l
  | [], i, h => rfl
  | f :: r, i, h => by unfold leave; rw [if_neg (by omega), leave_past r (i + 1) (by omega)]
theorem leave_last : ∀ (l : List Fr) (i : Nat), l ≠ [] → leave (i + l.length - 1) i l = l.dropLast
  | [], i, h => absurd rfl h
  | [f], i, h => by simp [leave]
  | f :: g :: r, i, h => by
    have h1 := leave_last (g :: r) (i + 1) (by simp)
    have e : i + 1 + (g :: r).length - 1 = i + (f :: g :: r).length - 1 := by simp only [List.length_cons]; omega
    rw [e] at h1
    unfold leave
    rw [if_neg (by simp only [List.length_cons]; omega), h1]
    rfl
theorem leave_first (f : Fr) (r : List Fr) : leave 0 0 (f :: r) = r := by
  unfold leave
  rw [if_pos rfl, leave_past r 1 (by omega)]
/-- Nothing is told, whatever of these frames is fed. -/
def mute : Option (List (Plc × Pt)) → List Fr → Prop
  | _, [] => True
  | o, f :: r => (feedO o f).1.is = false ∧ mute (feedO o f).2 r
theorem mute_dead : ∀ l : List Fr, mute none l
  | [] => trivial
  | f :: r => ⟨rfl, mute_dead r⟩
theorem mute_init {ch k : Nat} {A : List Sg} : ∀ (l : List Fr) (o : Option Pt), (∀ f ∈ l, f.k = k ∧ f.ch = ch) → runAll o l A → mute (some (oneM (ch, k) o)) l.dropLast
  | [], o, h, hr => trivial
  | [f], o, h, hr => trivial
  | f :: g :: r, o, h, hr => by
    obtain ⟨h1, h2⟩ := h f (by simp)
    obtain ⟨p, h3, h4⟩ := (run_feed h2 h1 hr).2 (by simp)
    have h5 := mute_init (g :: r) (some p) (fun x hx => h x (List.mem_cons_of_mem _ hx)) h4
    show mute _ (f :: (g :: r).dropLast)
    refine ⟨?_, ?_⟩
    · rw [show feedO (some (oneM (ch, k) o)) f = feedM (oneM (ch, k) o) f from rfl, h3]; rfl
    · rw [show feedO (some (oneM (ch, k) o)) f = feedM (oneM (ch, k) o) f from rfl, h3]; exact h5
theorem mute_stray {f : Fr} {r : List Fr} (h : f.a = false) : mute (some []) (f :: r) := by
  have hf : feedM [] f = (ans0 (refusedD f none), none) := by
    unfold feedM
    have hn : refusedD f none ≠ 0 := by
      unfold refusedD
      split
      · decide
      · rw [if_pos (by simp [fitsD, h])]; decide
    show (if refusedD f none ≠ 0 then (ans0 (refusedD f none), none) else _) = _
    rw [if_pos hn]
  refine ⟨?_, ?_⟩
  · show (feedM [] f).1.is = false
    rw [hf]; rfl
  · show mute (feedM [] f).2 r
    rw [hf]; exact mute_dead r
theorem mute_strays : ∀ l : List Fr, (∀ f ∈ l, f.a = false) → mute (some []) l
  | [], _ => trivial
  | f :: r, h => mute_stray (h f (by simp))
theorem pieceF_a {a b : Bool} {t k ch : Nat} : ∀ (xs : List (List UInt8)) (c : Bool), ∀ f ∈ pieceF a b t k ch c xs, f.a = a
  | [], _, f, h => by cases h
  | [x], c, f, h => by
    simp only [pieceF, List.mem_singleton] at h
    subst h
    rfl
  | x :: y :: r, c, f, h => by
    simp only [pieceF, List.mem_cons] at h
    rcases h with rfl | h
    · rfl
    · exact pieceF_a (y :: r) false f h
theorem framesD_a {n k ch : Nat} : ∀ (l : List Sg), ∀ f ∈ framesD n k ch false l, f.a = false
  | [], f, h => by cases h
  | s :: r, f, h => by
    simp only [framesD, List.mem_append] at h
    rcases h with h | h
    · exact pieceF_a _ _ f h
    · exact framesD_a r f h
/-- A message's segments. -/
def msgS (h b : ByteArray) : List Sg := [⟨1, ⟨#[120]⟩⟩, ⟨2, h⟩, ⟨3, b⟩]
theorem msg_check (h b : ByteArray) (hh : h.size ≤ 4000) (hb : b.size ≤ 4000) : checkA 1 (msgS h b) = 0 := by
  have hs : sumS (msgS h b) ≤ 16384 := by
    show 1 + (h.size + (b.size + 0)) ≤ 16384
    omega
  unfold checkA
  rw [if_pos ⟨by rfl, hs⟩]
theorem msg_first {n ch : Nat} (hn : 1 ≤ n) (h b : ByteArray) : ∃ f, framesD n 1 ch true (msgS h b) = f :: framesD n 1 ch false [⟨2, h⟩, ⟨3, b⟩] := by
  refine ⟨⟨true, false, true, true, 1, 1, ch, str8 [120]⟩, ?_⟩
  show pieceF true false 1 1 ch true (cutP n (sb ⟨#[120]⟩)) ++ framesD n 1 ch false [⟨2, h⟩, ⟨3, b⟩] = _
  rw [cutP_end (show (sb ⟨#[120]⟩).length ≤ n from hn)]
  rfl
/-- The frames of a message. -/
structure MsgF (n ch : Nat) (h b : ByteArray) (L : List Fr) : Prop where
  cut : cutD n 1 ch (msgS h b) = (L, 0)
  three : 3 ≤ L.length
  many : L.length ≤ 8004
  enc : (encL L).length ≤ 200000
  each : ∀ f ∈ L, f.ok ∧ checkF f = 0 ∧ f.k = 1 ∧ f.ch = ch
  run : runAll none L (msgS h b)
  last : mute (some []) (leave (L.length - 1) 0 L)
  first : mute (some []) (leave 0 0 L)
theorem msgF {n ch : Nat} {h b : ByteArray} (hn : 1 ≤ n) (hn2 : n ≤ 200) (hch : ch < 65536) (hh : h.size ≤ 4000) (hb : b.size ≤ 4000) : MsgF n ch h b (framesD n 1 ch true (msgS h b)) := by
  have hck := msg_check h b hh hb
  have hs : sumS (msgS h b) = 1 + (h.size + (b.size + 0)) := rfl
  obtain ⟨h1, h2, h3⟩ := to_framesD_len (k := 1) (ch := ch) hn (msgS h b) true
  have hl : (msgS h b).length = 3 := rfl
  have hok := frames_ok (k := 1) hn (by omega : n ≤ 4084) hch hck
  have hrun := run_cut hn (by omega : n ≤ 4084) ch hck
  have hsz := encL_size (framesD n 1 ch true (msgS h b))
  refine ⟨?_, by omega, by omega, by omega, fun f hf => ?_, hrun, ?_, ?_⟩
  · unfold cutD
    rw [if_neg (by omega), if_neg (by rw [hck]; omega)]
    rfl
  · obtain ⟨h4, h5, h6⟩ := hok f hf
    obtain ⟨_, _, h9, s, hs9, h10⟩ := framesD_of hn (msgS h b) true f hf
    have h11 := (types_le (checkA_zero hck).1).2 s hs9
    refine ⟨h4, ?_, h5, h6⟩
    unfold checkF
    rw [if_neg (by omega)]
  · have := leave_last (framesD n 1 ch true (msgS h b)) 0 (run_ne hrun)
    rw [Nat.zero_add] at this
    rw [this]
    exact mute_init _ none (fun f hf => (hok f hf).2) hrun
  · obtain ⟨f, hf⟩ := msg_first (ch := ch) hn h b
    rw [hf, leave_first]
    exact mute_strays _ (framesD_a _)
theorem msg_scan {n ch : Nat} {h b : ByteArray} {L : List Fr} (H : MsgF n ch h b L) : scanD (encL L) = (L, (encL L).length) ∧ errD (encL L) = 0 := by
  have h1 := scan_enc L [] (fun f hf => ⟨(H.each f hf).1, (H.each f hf).2.1⟩)
  have h2 : scanD [] = ([], 0) := scanD_no isOne_nil
  rw [h2] at h1
  simp only [List.append_nil, Nat.add_zero] at h1
  refine ⟨h1, ?_⟩
  unfold errD
  rw [h1]
  simp only [List.drop_length]
  rfl

end Go.Proofs.YtdjahdnaihijjaaGreatDoor
/-
  What the two loops over a message's frames keep: bytes that grow beside a gatherer that tells nothing; a gatherer that is fed all frames.
  Conditions: none but sizes.
-/
namespace Go.Proofs.YtdjahdnaihijjaaGreatDoor
open Go.RowKit
set_option linter.unusedVariables false
set_option linter.unusedSimpArgs false

/-- The first loop: bytes of the call's own; a gatherer at pb that tells nothing of the frames R. -/
structure Pass (wg : World) (pb : Nat) (E : List UInt8) (R : List Fr) (av : Value) (wr : World) : Prop where
  bel : Below wg.heap.size wg wr
  all : Own 5 wr wg.heap.size av E
  part : ∃ o F, GW wr wg.heap.size pb o F ∧ (∀ k, F k → av.ownBlock ≠ some k) ∧ mute o R
section
variable {wg wr wy : World} {pb : Nat} {E E' : List UInt8} {R : List Fr} {av av' : Value} {f : Fr}
theorem Pass.step (h : Pass wg pb E R av wr) (hb : Below wr.heap.size wr wy) : Pass wg pb E R av wy := by
  obtain ⟨o, F, h1, h2, h3⟩ := h.part
  exact ⟨h.bel.trans (hb.mono h.bel.size), h.all.keep fun g hg => hb.block g (h.all.block g hg).2, o, F, h1.keep fun k hk => hb.block k (h1.foot k hk).2, h2, h3⟩
theorem Pass.app (h : Pass wg pb E R av wr) (ho : Own 5 wy wg.heap.size av' E') (hg : wr.grownBy wy av.ownBlock) (hv : av'.ownBlock = av.ownBlock ∨ av'.ownBlock = some wr.heap.size) : Pass wg pb E' R av' wy := by
  obtain ⟨o, F, h1, h2, h3⟩ := h.part
  refine ⟨h.bel.grown hg h.bel.size (fun q hq => (h.all.block q hq).1), ho, o, F, h1.keep fun k hk => hg.block k (h1.foot k hk).2 (fun e => h2 k hk e.symm), fun k hk => ?_, h3⟩
  rcases hv with e | e
  · rw [e]; exact h2 k hk
  · rw [e]; intro e2; have := Option.some.inj e2; have := (h1.foot k hk).2; omega
theorem Pass.feed (h : Pass wg pb E (f :: R) av wr) (hf : f.ok) :
    Calls Tryz.prog 9 #[.pointer (some ⟨pb, 0, none⟩), .agg f.vs.toArray] wr fun e w' => ∃ (rc rk re : Nat) (B : Option Addr) (n c : Nat), e = .returned (.tuple #[.agg #[.int .u16 rc, .int .u8 rk, .slice B n c], .bool false, .int .i64 re]) ∧ Pass wg pb E R av w' := by
  obtain ⟨o, F, h1, h2, h3, h4⟩ := h.part
  refine (feed_any f wr wg.heap.size pb o F hf h.bel.size h1).mono ?_
  rintro e w' ⟨v, F', rfl, ho, hg, hF, hm⟩
  obtain ⟨A, c, rfl, _, _⟩ := ho.form
  have hlt : ∀ g, av.ownBlock = some g → g < wr.heap.size ∧ ¬ F g := fun g hg => ⟨(h.all.block g hg).2, fun hFg => h2 g hFg hg⟩
  refine ⟨(feedO o f).1.ch, (feedO o f).1.k, (feedO o f).1.e, A, (feedO o f).1.l.length, c, ?_, hm.below h.bel (fun k hk => (h1.foot k hk).1) h.bel.size, h.all.keep fun g hg => hm.block g (hlt g hg).1 (hlt g hg).2, _, F', hg, fun k hk e => ?_, h4⟩
  · unfold ansV
    rw [h3]
  · rcases hF k hk with h5 | h5
    · exact h2 k h5 e
    · have := (hlt k e).1; omega
end

/-- The second loop: the frames that were read, and a gatherer that is to be fed those from i on. -/
structure Gath (wc : World) (gb db : Nat) (A : Option Addr) (c : Nat) (ch : Nat) (L : List Fr) (S : List Sg) (i : Nat) (wr : World) : Prop where
  bel : Below wc.heap.size wc wr
  row : ShowsG frC wr db (.slice A L.length c) L
  g : ∃ o F, GW wr wc.heap.size gb (some (oneM (ch, 1) o)) F ∧ ¬ F db ∧ (i < L.length → runAll o (L.drop i) S)
section
variable {wc wr wy : World} {gb db c ch i : Nat} {A : Option Addr} {L : List Fr} {S : List Sg}
theorem Gath.step (h : Gath wc gb db A c ch L S i wr) (hb : Below wr.heap.size wr wy) : Gath wc gb db A c ch L S i wy := by
  obtain ⟨o, F, h1, h2, h3⟩ := h.g
  exact ⟨h.bel.trans (hb.mono h.bel.size), h.row.keep hb.size fun hp => hb.block db (h.row.lt hp), o, F, h1.keep fun k hk => hb.block k (h1.foot k hk).2, h2, h3⟩
theorem Gath.feed (h : Gath wc gb db A c ch L S i wr) (hi : i < L.length) (hok : (L[i]'hi).ok ∧ (L[i]'hi).k = 1 ∧ (L[i]'hi).ch = ch) :
    Calls Tryz.prog 9 #[.pointer (some ⟨gb, 0, none⟩), .agg (L[i]'hi).vs.toArray] wr fun e w' => ∃ (rc rk : Nat) (B : Option Addr) (n : Nat) (T : List Sg), e = .returned (.tuple #[.agg #[.int .u16 rc, .int .u8 rk, .slice B T.length n], .bool (decide (i + 1 = L.length)), .int .i64 (0 : Nat)]) ∧
      OwnG sgC 38 w' wr.heap.size (.slice B T.length n) T ∧ (i + 1 = L.length → rc = ch ∧ T = S) ∧ Gath wc gb db A c ch L S (i + 1) w' := by
  obtain ⟨o, F, h1, h2, h3⟩ := h.g
  have hrun := h3 hi
  rw [List.drop_eq_getElem_cons hi] at hrun
  obtain ⟨hlast, hmore⟩ := run_feed hok.2.2 hok.2.1 hrun
  refine (feed_any _ wr wc.heap.size gb _ F hok.1 h.bel.size h1).mono ?_
  rintro e w' ⟨v, F', rfl, ho, hg, hF, hm⟩
  have hdl : db < wr.heap.size := h.row.lt (by omega)
  have hrow : ShowsG frC w' db (.slice A L.length c) L := h.row.keep hm.size fun hp => hm.block db hdl h2
  have hbel := hm.below h.bel (fun k hk => (h1.foot k hk).1) h.bel.size
  have hF' : ¬ F' db := fun hd => by rcases hF db hd with h5 | h5; exact h2 h5; omega
  have hnil : L.drop (i + 1) = [] ↔ i + 1 = L.length := by rw [List.drop_eq_nil_iff]; omega
  have hfe : feedO (some (oneM (ch, 1) o)) (L[i]'hi) = feedM (oneM (ch, 1) o) (L[i]'hi) := rfl
  by_cases hq : i + 1 = L.length
  · rw [hfe, hlast (hnil.2 hq)] at ho hg ⊢
    obtain ⟨B, n, rfl, _, _⟩ := ho.form
    refine ⟨ch, 1, B, n, S, ?_, ho, fun _ => ⟨rfl, rfl⟩, hbel, hrow, none, F', hg, hF', fun hlt => by omega⟩
    rw [decide_eq_true hq]
    rfl
  · obtain ⟨p, hp, hrn⟩ := hmore (fun e => hq (hnil.1 e))
    rw [hfe, hp] at ho hg ⊢
    obtain ⟨B, n, rfl, _, _⟩ := ho.form
    refine ⟨0, 0, B, n, [], ?_, ho, fun e => absurd e hq, hbel, hrow, some p, F', hg, hF', fun _ => hrn⟩
    rw [decide_eq_false hq]
    rfl
end

end Go.Proofs.YtdjahdnaihijjaaGreatDoor
