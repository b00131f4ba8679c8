/- A work list: a queue and flags. Taking from it, adding to it. -/
import Derived.Test.YtafldjbmheopjaaK5
import Derived.ArgAppend
namespace Go.Proofs.Ytafldjbmheopjaa
open Go.RowKit
set_option linter.unusedVariables false

theorem Own.ne {w : World} {g g' : Nat} {t t' : TypeId} {xs ys : List Value} (h : Own w g t xs) (h' : Own w g' t' ys) (ht : t ≠ t') : g ≠ g' := by
  intro e
  subst e
  unfold Own at h h'
  rw [h] at h'
  injection h' with h'
  injection h' with _ h'
  exact ht h'
theorem Own.frame {F F' : Nat → Prop} {w w' : World} {g : Nat} {t : TypeId} {ys : List Value} (ho : Own w g t ys) (h : Fr F F' w w') (hg : ¬ F g) : Own w' g t ys := h.own ho hg

/-- A queue of numbers: a part of a block of one's own. -/
def QRow (base : Nat) (v : Value) (q : List Nat) (w : World) : Prop :=
  (v = .slice none 0 0 ∧ q = []) ∨ ∃ b off cap cur, v = .slice (some ⟨b, off, none⟩) q.length cap ∧ base ≤ b ∧ Own w b 3 cur ∧ q.length ≤ cap ∧ off + cap ≤ cur.length ∧ cap ≤ maxLen ∧ ∀ i (h : i < q.length), cur[off + i]? = some (.int .i64 (q[i] : Nat))

section
variable {base : Nat} {v : Value} {q : List Nat} {w w' : World}
theorem QRow.shape (h : QRow base v q w) : ∃ A cap, v = .slice A q.length cap := by
  rcases h with ⟨rfl, rfl⟩ | ⟨b, off, cap, cur, rfl, _⟩
  · exact ⟨none, 0, rfl⟩
  · exact ⟨_, _, rfl⟩
theorem QRow.same (h : QRow base v q w) (hb : ∀ b, v.ownBlock = some b → w'.heap[b]? = w.heap[b]?) : QRow base v q w' := by
  rcases h with h | ⟨b, off, cap, cur, rfl, h1, h2, h3⟩
  · exact .inl h
  · exact .inr ⟨b, off, cap, cur, rfl, h1, (hb b rfl).trans h2, h3⟩
theorem QRow.lt (h : QRow base v q w) {b : Nat} (hb : v.ownBlock = some b) : base ≤ b ∧ b < w.heap.size ∧ ∃ cur, Own w b 3 cur := by
  rcases h with ⟨rfl, _⟩ | ⟨b', off, cap, cur, rfl, h1, h2, h3⟩
  · cases hb
  · injection hb with hb
    subst hb
    exact ⟨h1, h2.lt, cur, h2⟩

theorem own_of_rowQ {base' : Nat} {n : Nat} {xs : List Value} (h : w.ownsRow base' 3 1 v n xs) (hb : base ≤ base') (hq : q.length = n) (hx : xs = q.map (fun j => .int .i64 (j : Nat))) : QRow base v q w := by
  rcases h with ⟨hl, ⟨rfl, h0⟩ | ⟨g, cap, cur, rfl, h1, h2, h3, h4, h5, h6⟩⟩
  · subst h0; exact .inl ⟨rfl, List.eq_nil_of_length_eq_zero hq⟩
  · subst hq
    refine .inr ⟨g, 0, cap, cur.toList, rfl, by omega, by unfold Own; simpa using h2, h3, by simp [h5], h4, fun i hi => ?_⟩
    have e : (cur.toList.take (q.length * 1))[i]? = xs[i]? := by rw [h6]
    rw [List.getElem?_take_of_lt (by omega)] at e
    rw [Nat.zero_add, e, hx]
    simp [hi]

/-- One more number is put behind the others. -/
theorem run_append_q {P : Program} (ty : TypeId) (i0 : TypeInfo) (ht : P.underlying 81 = some (.slice 3)) (hi : P.info? 3 = some i0) (hz : i0.zero = some (.int .i64 0)) (hsize : i0.size = 1) (hby : i0.bytes = 8)
    (h : QRow base v q w) (ad : Addr) (x : Nat) (hnew : ∀ j u, ([.int .i64 (x : Nat)] : List Value)[j]? = some u → w.cell? (ad.add j) = some u) (hq : q.length ≤ 1048576) (hbase : base ≤ w.heap.size) :
    ∃ v' w', (Builtin.append_ #[81, 81] ty #[v, .slice (some ad) 1 1]).run P w = .ok v' w' ∧ QRow base v' (q ++ [x]) w' ∧ w.grownBy w' v.ownBlock ∧ (v'.ownBlock = v.ownBlock ∨ ∃ k, v'.ownBlock = some k ∧ w.heap.size ≤ k) := by
  have hml : q.length + 1 ≤ maxLen := by unfold maxLen; omega
  rcases h with ⟨rfl, rfl⟩ | ⟨b, off, cap, cur, rfl, h1, h2, h3, h4, h5, h6⟩
  · obtain ⟨v', w', hr, ho, hg, _, hat⟩ := run_append_own_at (P := P) w base 81 ty 3 i0 (.int .i64 0) 1 8 ht hi hz hsize hby rfl (by decide) (.slice none 0 0) 0 [] (World.ownsRow_nil _ _ _ _) ad 1 1 [.int .i64 (x : Nat)] rfl hnew (by intro u hu; simp at hu; subst hu; rfl) (by unfold maxLen; omega) (by omega) hbase
    exact ⟨v', w', hr, own_of_rowQ ho (Nat.le_refl _) (by simp) (by simp), hg, hat.imp id (fun e => ⟨_, e, Nat.le_refl _⟩)⟩
  · by_cases hroom : q.length + 1 ≤ cap
    · have hr := run_append_room_cells (P := P) w 81 ty 3 i0 ht hi b off q.length cap ad 1 1 [.int .i64 (x : Nat)] (by rw [hsize]; rfl) hnew (by intro u hu; simp at hu; subst hu; rfl) hroom
        (by intro j hj; simp at hj; subst hj; rw [h2.cell, hsize]; simp; omega) (by intro j hj; exact h2.frozen _)
      rw [hsize] at hr
      simp only [Nat.mul_one, World.setCells] at hr
      refine ⟨_, _, hr, .inr ⟨b, off, cap, cur.set (off + q.length) (.int .i64 (x : Nat)), by simp, h1, h2.set_ _ _, by simpa using hroom, by simpa using h4, h5, fun i hi => ?_⟩, ⟨rfl, rfl, rfl, by simp, fun k hk hkb => Below.heap_setCell w _ _ k (fun e => hkb (by rw [e]; rfl))⟩, .inl rfl⟩
      by_cases hi2 : i < q.length
      · rw [List.getElem?_set_ne (by omega), h6 i hi2, List.getElem_append_left hi2]
      · have : i = q.length := by simp at hi; omega
        subst this
        rw [List.getElem?_set_self (by omega)]
        simp
    · have holds : ∀ j u, (q.map (fun j => (.int .i64 (j : Nat) : Value)))[j]? = some u → w.cell? ((⟨b, off, none⟩ : Addr).add j) = some u := by
        intro j u hu
        have hj : j < q.length := by
          rcases Nat.lt_or_ge j q.length with h | h
          · exact h
          · rw [List.getElem?_eq_none (by simpa using h)] at hu; cases hu
        have e1 : (Addr.add ⟨b, off, none⟩ j) = ⟨b, off + j, none⟩ := by unfold Addr.add; split <;> simp_all
        rw [e1, h2.cell, h6 j hj]
        simp [hj] at hu
        rw [← hu]
      obtain ⟨v', w', hr, ho, hg⟩ := run_append_arg_grows (P := P) w 81 ty 3 i0 (.int .i64 0) 1 8 ht hi hz hsize hby rfl (by decide) ⟨b, off, none⟩ q.length cap (q.map (fun j => (.int .i64 (j : Nat) : Value))) (by simp) holds ad 1 1 [.int .i64 (x : Nat)] rfl hnew (by omega) hml (by omega)
      refine ⟨v', w', hr, own_of_rowQ ho hbase (by simp) (by simp), ⟨hg.os, hg.tape, hg.output, hg.size, fun k hk _ => hg.block k hk (by simp)⟩, ?_⟩
      obtain ⟨g', c', hv, hg1, hg2⟩ := own_some ho (by omega)
      exact .inr ⟨g', by rw [hv]; rfl, hg1⟩
end

theorem wpList_append_q {P : Program} {w : World} {ops : Array Oper} {rest : List Oper} {o : Oper} {a : Act} {Q : Exit → Act → World → Prop} (hgd : o.guard = none) (s x : Operand)
    (ho : o.op = .call { callee := .builtin .append, args := #[s, x], argTypes := #[81, 81] })
    (i0 : TypeInfo) (ht : P.underlying 81 = some (.slice 3)) (hi : P.info? 3 = some i0) (hz : i0.zero = some (.int .i64 0)) (hsize : i0.size = 1) (hby : i0.bytes = 8)
    (base : Nat) (v : Value) (q : List Nat) (hs : a.eval s = v) (hq : QRow base v q w) (ad : Addr) (y : Nat) (hx : a.eval x = .slice (some ad) 1 1) (hnew : ∀ j u, ([.int .i64 (y : Nat)] : List Value)[j]? = some u → w.cell? (ad.add j) = some u)
    (hl : q.length ≤ 1048576) (hbase : base ≤ w.heap.size)
    (h : ∀ v' w', QRow base v' (q ++ [y]) w' → w.grownBy w' v.ownBlock → (v'.ownBlock = v.ownBlock ∨ ∃ k, v'.ownBlock = some k ∧ w.heap.size ≤ k) → wpList P ops Q rest (a.put o.dst v') w') :
    wpList P ops Q (o :: rest) a w := by
  refine wpList_plain hgd fun K hK => ?_
  obtain ⟨v', w', hr, h2, h3, h4⟩ := run_append_q (P := P) (w := w) o.type i0 ht hi hz hsize hby hq ad y hnew hl hbase
  unfold Oper.wp execOp
  simp only [ho, resolve, invoke, builtin, Sem.run_bind, Sem.run_pure, Result.andThen_ok, List.map_toArray, List.map_cons, List.map_nil, hs, hx, hr]
  exact hK _ _ (h v' w' h2 h3 h4)

/-- The blocks of a work list. -/
def WF (wl wb : Nat) (qv : Value) (k : Nat) : Prop := k = wl ∨ k = wb ∨ qv.ownBlock = some k

/-- A work list in memory. -/
structure WL (base wl wb m : Nat) (qv : Value) (q : List Nat) (ws : List Bool) (w : World) : Prop where
  box : Own w wl 136 [qv, .slice (some ⟨wb, 0, none⟩) m m]
  wt : Own w wb 4 (ws.map .bool)
  qr : QRow base qv q w
  b1 : base ≤ wl
  b2 : base ≤ wb

/-- What holds of it: the flags say what waits. -/
structure WOK (m : Nat) (q : List Nat) (ws : List Bool) : Prop where
  l : ws.length = m
  nd : q.Nodup
  lt : ∀ j ∈ q, j < m
  fl : ∀ j (h : j < ws.length), ws[j] = true ↔ j ∈ q

theorem nodup_len : ∀ (m : Nat) (q : List Nat), q.Nodup → (∀ j ∈ q, j < m) → q.length ≤ m
  | 0, q, _, h => by
    cases q with
    | nil => simp
    | cons a r => have := h a (List.mem_cons_self ..); omega
  | m + 1, q, hn, h => by
    have h1 := nodup_len m (q.erase m) (hn.erase m) (fun j hj => by
      have h2 := (hn.mem_erase_iff).1 hj
      have h3 := h j h2.2
      have h4 := h2.1
      omega)
    rw [List.length_erase] at h1
    split at h1 <;> omega
theorem WOK.len {m : Nat} {q : List Nat} {ws : List Bool} (h : WOK m q ws) : q.length ≤ m := nodup_len m q h.nd h.lt
theorem WOK.add {m : Nat} {q : List Nat} {ws : List Bool} (h : WOK m q ws) {j : Nat} (hj : j < m) (hf : j ∉ q) : WOK m (q ++ [j]) (ws.set j true) := by
  refine ⟨by simp [h.l], ?_, ?_, ?_⟩
  · rw [List.nodup_append]
    exact ⟨h.nd, by simp, fun a ha b hb => by rw [List.mem_singleton.1 hb]; exact fun e => hf (e ▸ ha)⟩
  · intro i hi
    rcases List.mem_append.1 hi with h1 | h1
    · exact h.lt i h1
    · rw [List.mem_singleton.1 h1]; exact hj
  · intro i hi
    have hi' : i < ws.length := by simpa using hi
    rw [List.getElem_set]
    by_cases e : j = i
    · subst e; simp
    · rw [if_neg e, h.fl i hi', List.mem_append, List.mem_singleton]
      exact ⟨.inl, fun h => h.resolve_right (fun h => e h.symm)⟩
theorem WOK.take {m : Nat} {j : Nat} {q : List Nat} {ws : List Bool} (h : WOK m (j :: q) ws) : WOK m q (ws.set j false) := by
  have hn := List.nodup_cons.1 h.nd
  refine ⟨by simp [h.l], hn.2, fun i hi => h.lt i (List.mem_cons_of_mem _ hi), fun i hi => ?_⟩
  have hi' : i < ws.length := by simpa using hi
  rw [List.getElem_set]
  by_cases e : j = i
  · subst e
    rw [if_pos rfl]
    exact ⟨fun h => (by cases h), fun h => absurd h hn.1⟩
  · rw [if_neg e, h.fl i hi', List.mem_cons]
    exact ⟨fun h => h.resolve_left (fun h => e h.symm), .inr⟩

section
variable {base wl wb m : Nat} {qv qv' : Value} {q q' : List Nat} {ws : List Bool} {w w' : World}
theorem WL.n1 (h : WL base wl wb m qv q ws w) : wl ≠ wb := h.box.ne h.wt (by decide)
theorem WL.n2 (h : WL base wl wb m qv q ws w) : qv.ownBlock ≠ some wl := fun e => by
  obtain ⟨_, _, cur, hc⟩ := h.qr.lt e
  exact h.box.ne hc (by decide) rfl
theorem WL.n3 (h : WL base wl wb m qv q ws w) : qv.ownBlock ≠ some wb := fun e => by
  obtain ⟨_, _, cur, hc⟩ := h.qr.lt e
  exact h.wt.ne hc (by decide) rfl
theorem WL.foot (h : WL base wl wb m qv q ws w) {k : Nat} (hk : WF wl wb qv k) : base ≤ k := by
  rcases hk with rfl | rfl | hk
  · exact h.b1
  · exact h.b2
  · exact (h.qr.lt hk).1
theorem WL.keep (h : WL base wl wb m qv q ws w) (hb : Below w.heap.size w w') : WL base wl wb m qv q ws w' :=
  ⟨h.box.keep hb, h.wt.keep hb, h.qr.same (fun b e => hb.block b (h.qr.lt e).2.1), h.b1, h.b2⟩
theorem WL.frame {F F' : Nat → Prop} (h : WL base wl wb m qv q ws w) (hf : Fr F F' w w') (hF : ∀ k, F k → k < base) : WL base wl wb m qv q ws w' :=
  ⟨hf.own h.box (fun e => by have := hF _ e; have := h.b1; omega), hf.own h.wt (fun e => by have := hF _ e; have := h.b2; omega), h.qr.same (fun b e => hf.block b (h.qr.lt e).2.1 (fun e2 => by have := hF _ e2; have := (h.qr.lt e).1; omega)), h.b1, h.b2⟩
/-- A flag is set. -/
theorem WL.flag (h : WL base wl wb m qv q ws w) (j : Nat) (f : Bool) : WL base wl wb m qv q (ws.set j f) (w.setCell ⟨wb, j, none⟩ (.bool f)) := by
  refine ⟨h.box.far (by simpa using h.n1) _, ?_, h.qr.same (fun b e => Below.heap_setCell w _ _ b (fun e2 => h.n3 (by rw [e, e2]))), h.b1, h.b2⟩
  have := h.wt.set_ j (.bool f)
  rwa [← List.map_set] at this
/-- The queue is another one. -/
theorem WL.swap (h : WL base wl wb m qv q ws w) (hg : w.grownBy w' qv.ownBlock) (hq : QRow base qv' q' w') : WL base wl wb m qv' q' ws (w'.setCell ⟨wl, 0, none⟩ qv') := by
  have o1 : Own w' wl 136 [qv, .slice (some ⟨wb, 0, none⟩) m m] := (hg.block wl h.box.lt (fun e => h.n2 e.symm)).trans h.box
  have o2 : Own w' wb 4 (ws.map .bool) := (hg.block wb h.wt.lt (fun e => h.n3 e.symm)).trans h.wt
  refine ⟨o1.set_ 0 qv', o2.far (by simpa using (h.n1).symm) _, hq.same (fun b e => Below.heap_setCell w' _ _ b (fun e2 => ?_)), h.b1, h.b2⟩
  obtain ⟨_, _, cur, hc⟩ := hq.lt e
  exact o1.ne hc (by decide) (by simpa using e2.symm)
end

def TakePost (base wl wb m j : Nat) (qv : Value) (q : List Nat) (ws : List Bool) (w : World) (e : Ending) (w' : World) : Prop :=
  e = .returned (.int .i64 (j : Nat)) ∧ ∃ qv', WL base wl wb m qv' q (ws.set j false) w' ∧ Fr (WF wl wb qv) (WF wl wb qv') w w'

set_option maxRecDepth 100000 in
set_option maxHeartbeats 1000000 in
theorem take_any (base wl wb m j : Nat) (qv : Value) (q : List Nat) (ws : List Bool) (w : World) (h : WL base wl wb m qv (j :: q) ws w) (hok : WOK m (j :: q) ws) (hm : m ≤ 400) :
    Calls Try.prog 92 #[.pointer (some ⟨wl, 0, none⟩)] w (TakePost base wl wb m j qv q ws w) := by
  have hlen := hok.len
  simp at hlen
  have hjm : j < m := hok.lt j (List.mem_cons_self ..)
  have hwsl := hok.l
  rcases h.qr with ⟨_, h0⟩ | ⟨b, off, cap, cur, rfl, h1, h2, h3, h4, h5, h6⟩
  · cases h0
  · have hq0 := h6 0 (by simp)
    simp only [Nat.add_zero, List.getElem_cons_zero] at hq0
    have x0 : w.cell? ⟨wl, 0, none⟩ = some (.slice (some ⟨b, off, none⟩) (q.length + 1) cap) := by rw [h.box.cell]; rfl
    have x1 : w.cell? ⟨wl, 1, none⟩ = some (.slice (some ⟨wb, 0, none⟩) m m) := by rw [h.box.cell]; rfl
    have y0 : w.cell? ⟨b, off, none⟩ = some (.int .i64 (j : Nat)) := by rw [h2.cell]; exact hq0
    have z0 : w.cell? ⟨wb, j, none⟩ = some (.bool (ws[j]'(by omega))) := by rw [h.wt.cell]; simp [show j < ws.length by omega]
    have f0 := h.box.frozen 0
    have f1 := h.wt.frozen j
    simp only [List.length_cons] at h3
    have n1 := h.n1
    have hc1 : 1 ≤ cap := by omega
    have hbl : b ≠ wl := fun e => h.box.ne h2 (by decide) e.symm
    have hbw : b ≠ wb := fun e => h.wt.ne h2 (by decide) e.symm
    have lt1 := h.box.lt
    have lt2 := h.wt.lt
    have lt3 := h2.lt
    by_cases hcap : cap = 1
    · have hql : q.length = 0 := by omega
      have hq : QRow base (.slice (some ⟨b, off, none⟩) q.length 0) q w := .inr ⟨b, off, 0, cur, rfl, h1, h2, by omega, by omega, by omega, fun i hi => by omega⟩
      have hgb : w.grownBy w (Value.slice (some ⟨b, off, none⟩) (j :: q).length cap).ownBlock := ⟨rfl, rfl, rfl, Nat.le_refl _, fun _ _ _ => rfl⟩
      have HW := (h.swap hgb hq).flag j false
      have hF : Fr (WF wl wb (.slice (some ⟨b, off, none⟩) (j :: q).length cap)) (WF wl wb (.slice (some ⟨b, off, none⟩) q.length 0)) w ((w.setCell ⟨wl, 0, none⟩ (.slice (some ⟨b, off, none⟩) q.length 0)).setCell ⟨wb, j, none⟩ (.bool false)) := by
        have e : Fr (WF wl wb (.slice (some ⟨b, off, none⟩) (j :: q).length cap)) (WF wl wb (.slice (some ⟨b, off, none⟩) q.length 0)) w w := ⟨rfl, rfl, rfl, Nat.le_refl _, fun _ _ _ => rfl, fun _ _ h => h⟩
        exact (e.setCell (p := ⟨wl, 0, none⟩) (.inl rfl) _).setCell (p := ⟨wb, j, none⟩) (.inr (.inl rfl)) _
      have HQL := Lib.hid hql
      have HCP := Lib.hid hcap
      have HWW := Lib.hid HW
      have HFF := Lib.hid hF
      clear h hq hgb HW hF h6 hok hq0 h2 hql
      have hlq : (0 : Int) < ((q.length : Int) + 1) := by omega
      have hjm' : (j : Int) < (m : Int) := by omega
      go_enter Try.func92, Try.ntmps92
      go_wp2
      go_ret
      exact ⟨rfl, _, HWW.out, HFF.out⟩

    · have hcap2 : 2 ≤ cap := by omega
      have hq : QRow base (.slice (some ⟨b, off + 1, none⟩) q.length (cap - 1)) q w := .inr ⟨b, off + 1, cap - 1, cur, rfl, h1, h2, by omega, by omega, by omega, fun i hi => by
        have := h6 (i + 1) (by simpa using hi)
        rw [show off + 1 + i = off + (i + 1) by omega, this]; rfl⟩
      have hgb : w.grownBy w (Value.slice (some ⟨b, off, none⟩) (j :: q).length cap).ownBlock := ⟨rfl, rfl, rfl, Nat.le_refl _, fun _ _ _ => rfl⟩
      have HW := (h.swap hgb hq).flag j false
      have hF : Fr (WF wl wb (.slice (some ⟨b, off, none⟩) (j :: q).length cap)) (WF wl wb (.slice (some ⟨b, off + 1, none⟩) q.length (cap - 1))) w ((w.setCell ⟨wl, 0, none⟩ (.slice (some ⟨b, off + 1, none⟩) q.length (cap - 1))).setCell ⟨wb, j, none⟩ (.bool false)) := by
        have e : Fr (WF wl wb (.slice (some ⟨b, off, none⟩) (j :: q).length cap)) (WF wl wb (.slice (some ⟨b, off + 1, none⟩) q.length (cap - 1))) w w := ⟨rfl, rfl, rfl, Nat.le_refl _, fun _ _ _ => rfl, fun _ _ h => h⟩
        exact (e.setCell (p := ⟨wl, 0, none⟩) (.inl rfl) _).setCell (p := ⟨wb, j, none⟩) (.inr (.inl rfl)) _
      have HWW := Lib.hid HW
      have HFF := Lib.hid hF
      clear h hq hgb HW hF h6 hok hq0 h2
      have hlq : (0 : Int) < ((q.length : Int) + 1) := by omega
      have hjm' : (j : Int) < (m : Int) := by omega
      go_enter Try.func92, Try.ntmps92
      go_wp2
      go_ret
      exact ⟨rfl, _, HWW.out, HFF.out⟩

end Go.Proofs.Ytafldjbmheopjaa
