/- How many nodes a tree of pieces has; both TrieMakes. -/
import Derived.Test.YtcanhkngikeeiaaV7
namespace Go.Proofs.Ytcanhkngikeeiaa
open Go.RowKit
set_option linter.unusedVariables false

/-- How many bytes pieces have beyond a depth. -/
def wt (dep : Nat) : List PP → Nat
  | [] => 0
  | x :: l => (x.1.size - dep) + wt dep l
theorem wt_append (dep : Nat) : ∀ l l' : List PP, wt dep (l ++ l') = wt dep l + wt dep l'
  | [], l' => by simp [wt]
  | x :: l, l' => by rw [List.cons_append, wt, wt, wt_append dep l l']; omega
theorem wt_filter (dep : Nat) (p : PP → Bool) : ∀ l : List PP, wt dep (l.filter p) ≤ wt dep l
  | [] => by simp [wt]
  | x :: l => by
    have := wt_filter dep p l
    rw [List.filter_cons]
    split
    · rw [wt, wt]; omega
    · rw [wt]; omega
theorem wt_succ (dep : Nat) : ∀ l : List PP, (∀ x ∈ l, dep < x.1.size) → wt (dep + 1) l + l.length ≤ wt dep l
  | [], _ => by simp [wt]
  | x :: l, h => by
    have h1 := wt_succ dep l (fun y hy => h y (by simp [hy]))
    have h2 := h x (by simp)
    rw [wt, wt, List.length_cons]
    omega
theorem wt_le (m : Nat) : ∀ l : List PP, (∀ x ∈ l, x.1.size ≤ m) → wt 0 l ≤ m * l.length
  | [], _ => by simp [wt]
  | x :: l, h => by
    have h1 := wt_le m l (fun y hy => h y (by simp [hy]))
    have h2 := h x (by simp)
    rw [wt, List.length_cons, Nat.mul_add, Nat.mul_one]
    omega

theorem forest_wt (dep : Nat) (tr : Nat → Int → Nat × List PP → List Node) : ∀ (n : Nat) (l : List PP) (base : Nat), (∀ x ∈ l, dep < x.1.size) → (∀ e ∈ groups dep n l, ∀ base, (tr base e.1 e.2).length ≤ 1 + wt e.2.1 e.2.2) → (forest tr base (groups dep n l)).2.length ≤ wt dep l
  | 0, l, base, _, _ => by simp [groups, forest_nil]
  | n + 1, [], base, _, _ => by simp [groups, forest_nil]
  | n + 1, x :: l, base, hs, ht => by
    unfold groups at ht ⊢
    rw [forest_cons]
    simp only [List.length_append]
    have h1 := ht _ (List.mem_cons_self ..) base
    simp only at h1
    have hne : 1 ≤ ((x :: l).takeWhile (fun y => byAt dep y == byAt dep x)).length := by rw [List.takeWhile_cons]; simp
    have h2 := wt_succ dep ((x :: l).takeWhile (fun y => byAt dep y == byAt dep x)) (fun y hy => hs y ((List.takeWhile_sublist _).subset hy))
    have h3 := forest_wt dep tr n ((x :: l).dropWhile (fun y => byAt dep y == byAt dep x)) (base + (tr base (byAt dep x) (dep + 1, (x :: l).takeWhile (fun y => byAt dep y == byAt dep x))).length) (fun y hy => hs y ((List.dropWhile_sublist _).subset hy)) (fun e he => ht e (List.mem_cons_of_mem _ he))
    have h4 := wt_append dep ((x :: l).takeWhile (fun y => byAt dep y == byAt dep x)) ((x :: l).dropWhile (fun y => byAt dep y == byAt dep x))
    rw [List.takeWhile_append_dropWhile] at h4
    omega

theorem tree_wt {ss : List ByteArray} {en : Int} {P : List PP} (hP : Few ss en P) : ∀ (f : Nat) (t : ByteArray) (base : Nat) (b : Int), (tree idsI nextI f base b (t.size, P.filter (preB t))).length ≤ 1 + wt t.size (P.filter (preB t))
  | 0, t, base, b => by simp [tree]
  | f + 1, t, base, b => by
    unfold tree
    rw [List.length_cons]
    have hB : (P.filter (preB t)).dropWhile (endsB t.size) = (P.filter (preB t)).filter (fun x => !endsB t.size x) := (while_filter _ _ (ends_first hP.s t)).2
    have h1 := forest_wt t.size (tree idsI nextI f) (P.filter (preB t)).length ((P.filter (preB t)).dropWhile (endsB t.size)) (base + 1) (fun x hx => by
      rw [hB, List.mem_filter, List.mem_filter] at hx
      obtain ⟨c1, r1, ex⟩ := split_at hx.1.2 (by simpa using hx.2)
      have h2 := congrArg List.length ex
      rw [tl_len] at h2
      simp at h2
      omega) (fun e he base => by
      obtain ⟨lb, g1, g2, e1, _, e3⟩ := same_next hP.s t
      have he' : e ∈ nextI (t.size, P.filter (preB t)) := he
      rw [e1, List.mem_map] at he'
      obtain ⟨c, hc, rfl⟩ := he'
      obtain ⟨q1, q2⟩ := e3 c hc
      have := tree_wt hP f (g2 c) base c
      have e4 : g1 c = ((g2 c).size, P.filter (preB (g2 c))) := by rw [← q1, ← q2]
      simp only
      rw [e4]
      exact this)
    have h2 := wt_filter t.size (fun x => !endsB t.size x) (P.filter (preB t))
    rw [hB] at h1
    have e5 : nextI (t.size, P.filter (preB t)) = groups t.size (P.filter (preB t)).length ((P.filter (preB t)).filter (fun x => !endsB t.size x)) := by
      show groups t.size (P.filter (preB t)).length ((P.filter (preB t)).dropWhile (endsB t.size)) = _
      rw [hB]
    rw [e5]
    omega

/-- The tree of a vocabulary. -/
def trieOf (ss : List ByteArray) (en : Int) : List Node := if vocOkB ss en then tree (idsS ss en) (nextS ss en) 6 0 0 ⟨#[]⟩ else []

theorem vocOk_parts {ss : List ByteArray} {en : Int} (h : vocOkB ss en = true) : 1 ≤ ss.length ∧ ss.length ≤ 40 ∧ -1 ≤ en ∧ en < ss.length ∧ ∀ s ∈ ss, s.size ≤ 6 := by
  unfold vocOkB at h
  simp only [Bool.and_eq_true, decide_eq_true_eq, Bool.not_eq_true', List.any_eq_false] at h
  obtain ⟨⟨⟨⟨h1, h2⟩, h3⟩, h4⟩, h5⟩ := h
  refine ⟨h1, h2, h3, h4, fun s hs => ?_⟩
  have := h5 s hs
  unfold longB at this
  simp at this
  omega

theorem few_of {ss : List ByteArray} {en : Int} {P : List PP} (h : vocOkB ss en = true) (hS : Srt ss en P) : Few ss en P := by
  obtain ⟨_, h2, _, _, h5⟩ := vocOk_parts h
  refine ⟨hS, by have := hS.len; omega, fun x hx => ?_⟩
  obtain ⟨i, hi, _, rfl⟩ := (hS.mem x).1 hx
  simp only
  rw [pieceAt_eq hi]
  exact h5 _ (List.getElem_mem hi)
theorem trie_size {ss : List ByteArray} {en : Int} {P : List PP} (h : vocOkB ss en = true) (hS : Srt ss en P) : (tree idsI nextI 6 0 0 (0, P)).length ≤ 241 := by
  have hP := few_of h hS
  have h1 := tree_wt hP 6 ⟨#[]⟩ 0 0
  rw [List.filter_eq_self.2 (fun x _ => pre_empty x)] at h1
  have h2 := wt_le 6 P hP.z
  have h3 := hP.n
  have h4 : (⟨#[]⟩ : ByteArray).size = 0 := rfl
  rw [h4] at h1
  omega

/-- What TrieMake answers: nodes of its own. -/
def MakePost (ss : List ByteArray) (en : Int) (w : World) (e : Ending) (w' : World) : Prop :=
  ∃ A cap val xs, e = .returned (.slice A (trieOf ss en).length cap) ∧ Fo w.heap.size (.slice A (trieOf ss en).length cap) (trieOf ss en) val xs w' ∧ Below w.heap.size w w'
theorem Fo.base {base base' : Nat} {v : Value} {ns : List Node} {val : Nat → Value} {xs : List Value} {w : World} (h : Fo base v ns val xs w) (hb : base' ≤ base) : Fo base' v ns val xs w := ⟨own_base h.row hb, h.cel, fun q hq => own_base (h.own q hq) hb, h.apt⟩
theorem fo_empty {base : Nat} {v : Value} {w : World} (h : w.ownsRow base 46 3 v 0 []) : Fo base v [] (fun _ => .slice none 0 0) [] w := ⟨h, fun i hi => by simp at hi, fun q hq => by simp at hq, fun p q b hp => by simp at hp⟩
theorem Row.block {w : World} {a : Option Addr} {ss : List ByteArray} (h : Row w a (strs ss)) (hs : 1 ≤ ss.length) : ∀ p, a = some p → p.block < w.heap.size := by
  obtain ⟨b, off, rfl, hc⟩ := h.str (k := 0) (by omega)
  intro p hp
  injection hp with hp
  subst hp
  exact cell_lt hc

/-- The pieces of a vocabulary, sorted. -/
theorem srt_ex (ss : List ByteArray) (en : Int) : ∃ P, Srt ss en P := by
  obtain ⟨h1, h2⟩ := Sort.insertionSort_holds (lt := ltL) swo_ltL (plains ss en ss.length).toArray 0 (plains ss en ss.length).toArray.size (Nat.zero_le _) (Nat.le_refl _)
  exact ⟨_, srt_of ⟨h1, h2⟩⟩

set_option maxRecDepth 100000 in
set_option maxHeartbeats 2000000 in
theorem specMake_any (a : Option Addr) (c : Nat) (ss : List ByteArray) (en : Int) (w : World) (hr : Row w a (strs ss)) (hm : ss.length ≤ 1048576) :
    Calls Try.prog 30 #[.agg #[.slice a ss.length c, .int .i64 en]] w (MakePost ss en w) := by
  have HR := Lib.hid hr
  clear hr
  have hok := specOk_any a c ss en (w.alloc (.cells #[.slice a ss.length c, .int .i64 en] 25)) (HR.out.alloc _) hm
  have hbx : Below w.heap.size w (w.alloc (.cells #[.slice a ss.length c, .int .i64 en] 25)) := below_box _
  have hv := Own.new w 25 #[.slice a ss.length c, .int .i64 en]
  cases hB : vocOkB ss en
  · rw [hB] at hok
    have HOK := Lib.hid hok
    have HB := Lib.hid hB
    clear hok hB
    go_enter Try.func30, Try.ntmps30
    go_wp2_with fail
    refine HOK.out.mono ?_
    rintro e w2 ⟨rfl, hb2⟩
    have hb3 : Below w.heap.size w w2 := hbx.trans (hb2.mono (by simp))
    have HB3 := Lib.hid hb3
    have hrow := World.ownsRow_lit (base := w.heap.size) (e := 46) (size := 3) w2 #[] 0 hb3.size (by simp [maxLen]) rfl
    have HROW := Lib.hid hrow
    clear HOK hb2 hbx hv hb3 hrow
    go_wp2
    go_ret
    have e0 : trieOf ss en = [] := by unfold trieOf; rw [HB.out]; rfl
    refine ⟨some ⟨w2.heap.size, 0, none⟩, 0, fun _ => .slice none 0 0, [], by rw [e0]; rfl, ?_, HB3.out.alloc HB3.out.size _⟩
    rw [e0]
    exact fo_empty HROW.out
  · rw [hB] at hok
    have HOK := Lib.hid hok
    have HB := Lib.hid hB
    obtain ⟨h1, h2, h3, h4, h5⟩ := vocOk_parts hB
    have H5 := Lib.hid h5
    clear hok hB h5
    go_enter Try.func30, Try.ntmps30
    go_wp2_with fail
    refine HOK.out.mono ?_
    rintro e w2 ⟨rfl, hb2⟩
    have hb3 : Below w.heap.size w w2 := hbx.trans (hb2.mono (by simp))
    have hv2 := hv.keep hb2
    have c0 : w2.cell? ⟨w.heap.size, 0, none⟩ = some (.slice a ss.length c) := by rw [hv2.cell]; rfl
    have c1 : w2.cell? ⟨w.heap.size, 1, none⟩ = some (.int .i64 en) := by rw [hv2.cell]; rfl
    have hrow := World.ownsRow_lit (base := w.heap.size) (e := 46) (size := 3) w2 #[] 0 hb3.size (by simp [maxLen]) rfl
    have hFo : Fo w.heap.size (.slice (some ⟨w2.heap.size, 0, none⟩) ([] : List Node).length 0) [] (fun _ => .slice none 0 0) [] (w2.alloc (.cells #[] 46)) := fo_empty hrow
    obtain ⟨P, hS⟩ := srt_ex ss en
    have hlen := trie_size HB.out hS
    rw [same_root hS 6] at hlen
    have hb4 : Below w.heap.size w (w2.alloc (.cells #[] 46)) := hb3.alloc hb3.size _
    have hcall := grow_any a c ss en h2 H5.out 6 ⟨#[]⟩ 0 [] (some ⟨w2.heap.size, 0, none⟩) 0 (fun _ => .slice none 0 0) [] w.heap.size (w2.alloc (.cells #[] 46)) (HR.out.keep hb4) (HR.out.block h1) hFo hb4.size (by decide) (by decide) (by simp only [List.length_nil]; omega)
    simp only [List.length_nil] at hcall
    have HC := Lib.hid hcall
    have HB4 := Lib.hid hb4
    have hs3 := hb3.size
    clear HOK hb2 hbx hv hv2 hb3 hrow hFo hlen hb4 hcall
    go_wp2_with fail
    refine HC.out.mono ?_
    rintro e w5 ⟨A5, c5, vl5, ys5, rfl, hF5, hFr5⟩
    have e0 : trieOf ss en = tree (idsS ss en) (nextS ss en) 6 0 0 ⟨#[]⟩ := by unfold trieOf; rw [HB.out]; rfl
    have hb5 := hFr5.below (base := w.heap.size) (fun k hk => by
      rcases hk with hk | ⟨q, hq, hk⟩
      · simp only [Value.ownBlock] at hk; injection hk with hk; omega
      · simp at hq) HB4.out.size
    have HF5 := Lib.hid (And.intro hF5 (HB4.out.trans hb5))
    have HE0 := Lib.hid e0
    clear hF5 hFr5 hb5 e0
    go_wp2
    go_ret
    refine ⟨A5, c5, vl5, ys5, by rw [HE0.out]; simp, ?_, HF5.out.2⟩
    rw [HE0.out]
    simpa using HF5.out.1

set_option maxRecDepth 100000 in
set_option maxHeartbeats 2000000 in
theorem implMake_any (a : Option Addr) (c : Nat) (ss : List ByteArray) (en : Int) (w : World) (hr : Row w a (strs ss)) (hm : ss.length ≤ 1048576) :
    Calls Try.prog 31 #[.agg #[.slice a ss.length c, .int .i64 en]] w (MakePost ss en w) := by
  have HR := Lib.hid hr
  clear hr
  have hok := implOk_any a c ss en (w.alloc (.cells #[.slice a ss.length c, .int .i64 en] 25)) (HR.out.alloc _) hm
  have hbx : Below w.heap.size w (w.alloc (.cells #[.slice a ss.length c, .int .i64 en] 25)) := below_box _
  have hv := Own.new w 25 #[.slice a ss.length c, .int .i64 en]
  cases hB : vocOkB ss en
  · rw [hB] at hok
    have HOK := Lib.hid hok
    have HB := Lib.hid hB
    clear hok hB
    go_enter Try.func31, Try.ntmps31
    go_wp2_with fail
    refine HOK.out.mono ?_
    rintro e w2 ⟨rfl, hb2⟩
    have hb3 : Below w.heap.size w w2 := hbx.trans (hb2.mono (by simp))
    have HB3 := Lib.hid hb3
    clear HOK hb2 hbx hv hb3
    go_wp2
    go_ret
    have e0 : trieOf ss en = [] := by unfold trieOf; rw [HB.out]; rfl
    refine ⟨none, 0, fun _ => .slice none 0 0, [], by rw [e0]; rfl, ?_, HB3.out⟩
    rw [e0]
    exact fo_empty (World.ownsRow_nil _ _ _ _)
  · rw [hB] at hok
    have HOK := Lib.hid hok
    have HB := Lib.hid hB
    obtain ⟨h1, h2, h3, h4, h5⟩ := vocOk_parts hB
    clear hok hB h5
    go_enter Try.func31, Try.ntmps31
    go_wp2_with fail
    refine HOK.out.mono ?_
    rintro e w2 ⟨rfl, hb2⟩
    have hb3 : Below w.heap.size w w2 := hbx.trans (hb2.mono (by simp))
    have hv2 := hv.keep hb2
    have c0 : w2.cell? ⟨w.heap.size, 0, none⟩ = some (.slice a ss.length c) := by rw [hv2.cell]; rfl
    have c1 : w2.cell? ⟨w.heap.size, 1, none⟩ = some (.int .i64 en) := by rw [hv2.cell]; rfl
    have HB3 := Lib.hid hb3
    have hs3 := hb3.size
    clear HOK hb2 hbx hv hv2 hb3
    go_wp2_with fail
    refine (sorted_any a c ss en w2 (HR.out.keep HB3.out) h2).mono ?_
    rintro e w3 ⟨PA, pc, ps, rfl, hp1, hp2, hpr, hb3, hS, hpa⟩
    have hP := few_of HB.out hS
    have hlen := trie_size HB.out hS
    have hb4 : Below w.heap.size w w3 := HB3.out.trans (hb3.mono hs3)
    have hfl : ps.filter (preB ⟨#[]⟩) = ps := List.filter_eq_self.2 (fun x _ => pre_empty x)
    have hcall := growI_any hP 6 ⟨#[]⟩ 0 [] none 0 (fun _ => .slice none 0 0) [] w3.heap.size PA pc w3 (by rw [hfl]; exact hpr) hpa (by rw [hfl]; exact hp1) hp2 (fo_empty (World.ownsRow_nil _ _ _ _)) (Nat.le_refl _) (by decide) (by decide) (by rw [hfl]; simp only [List.length_nil]; exact Nat.le_trans (by rw [Nat.zero_add]; exact hlen) (by decide))
    rw [hfl] at hcall
    have e0 : trieOf ss en = tree idsI nextI 6 0 0 (0, ps) := by rw [same_root hS 6]; unfold trieOf; rw [HB.out]; rfl
    simp only [List.length_nil] at hcall
    have HC : Hid (Calls Try.prog 63 #[.slice none 0 0, .int .i64 0, .slice PA ps.length pc, .int .i64 0] w3 (GrowPostI w3.heap.size (trieOf ss en) [] (.slice none 0 0) (fun _ => .slice none 0 0) w3)) := by rw [e0]; exact hcall
    have HB4 := Lib.hid hb4
    have hs4 := hb4.size
    clear hpr hb3 hS hpa hP hlen hb4 hfl hcall e0 c0 c1
    go_wp2_with fail
    refine HC.out.mono ?_
    rintro e w5 ⟨A5, c5, vl5, ys5, rfl, hF5, hFr5⟩
    have hb5 := hFr5.below (base := w3.heap.size) (fun k hk => by
      rcases hk with hk | ⟨q, hq, hk⟩
      · cases hk
      · simp at hq) (Nat.le_refl _)
    have HF5 := Lib.hid (And.intro hF5 (HB4.out.trans (hb5.mono hs4)))
    clear hF5 hFr5 hb5
    go_wp2
    go_ret
    refine ⟨A5, c5, vl5, ys5, by simp, ?_, HF5.out.2⟩
    have := HF5.out.1.base hs4
    simpa using this

end Go.Proofs.Ytcanhkngikeeiaa
