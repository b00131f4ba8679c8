/- One production is applied: the closure of impl.CfgLeast. And a frame: which blocks may turn. -/
import Derived.Test.YtkgiklmdpdakbaaK4
import Derived.ArgAppend
namespace Go.Proofs.Ytkgiklmdpdakbaa
open Go.RowKit
set_option linter.unusedVariables false

/-- What a step leaves: blocks outside stay; what is new in the footprint is a new block. -/
structure Fr (F F' : Nat → Prop) (w w' : World) : Prop where
  os : w'.os = w.os
  tape : w'.tape = w.tape
  output : w'.output = w.output
  size : w.heap.size ≤ w'.heap.size
  block : ∀ k, k < w.heap.size → ¬ F k → w'.heap[k]? = w.heap[k]?
  foot : ∀ k, k < w.heap.size → F' k → F k

section
variable {F F' F'' : Nat → Prop} {w w' w'' : World} {base : Nat}
theorem Fr.refl (F : Nat → Prop) (w : World) : Fr F F w w := ⟨rfl, rfl, rfl, Nat.le_refl _, fun _ _ _ => rfl, fun _ _ h => h⟩
theorem Fr.trans (h : Fr F F' w w') (h' : Fr F' F'' w' w'') : Fr F F'' w w'' :=
  ⟨h'.os.trans h.os, h'.tape.trans h.tape, h'.output.trans h.output, Nat.le_trans h.size h'.size, fun k hk hF => (h'.block k (Nat.lt_of_lt_of_le hk h.size) (fun q => hF (h.foot k hk q))).trans (h.block k hk hF), fun k hk q => h.foot k hk (h'.foot k (Nat.lt_of_lt_of_le hk h.size) q)⟩
theorem Fr.of_below (F : Nat → Prop) (hb : Below w.heap.size w w') : Fr F F w w' := ⟨hb.os, hb.tape, hb.output, hb.size, fun k hk _ => hb.block k hk, fun _ _ h => h⟩
theorem Fr.below (h : Fr F F' w w') (hF : ∀ k, F k → base ≤ k) (hb : base ≤ w.heap.size) : Below base w w' := ⟨h.os, h.tape, h.output, h.size, fun k hk => h.block k (by omega) (fun q => by have := hF k q; omega)⟩
theorem Fr.own {g : Nat} {t : TypeId} {ys : List Value} (h : Fr F F' w w') (ho : Own w g t ys) (hg : ¬ F g) : Own w' g t ys := (h.block g ho.lt hg).trans ho
theorem Fr.cell {p : Addr} {x : Value} (h : Fr F F' w w') (hc : w.cell? p = some x) (hg : ¬ F p.block) : w'.cell? p = some x := by
  rw [World.cell?_of_block (h.block p.block (cell_lt hc) hg)]; exact hc
theorem Fr.setCell (h : Fr F F' w w') {p : Addr} (hp : F' p.block) (v : Value) : Fr F F' w (w'.setCell p v) :=
  ⟨h.os, h.tape, h.output, by simpa using h.size, fun k hk hF => by
    rw [← h.block k hk hF]
    exact Below.heap_setCell w' p v k (fun e => hF (h.foot k hk (by rw [e]; exact hp))), h.foot⟩
theorem Fr.row {A : Option Addr} {xs : List Value} (h : Fr F F' w w') (hr : Row w A xs) (hA : ∀ p, A = some p → ¬ F p.block) : Row w' A xs := by
  rcases hr with hr | ⟨b, off, ha, hc⟩
  · exact .inl hr
  · exact .inr ⟨b, off, ha, fun i hi => h.cell (hc i hi) (by have := hA ⟨b, off, none⟩ ha; exact this)⟩
theorem Fr.ownsRow {e : TypeId} {size : Nat} {v : Value} {n : Nat} {xs : List Value} (h : Fr F F' w w') (ho : w.ownsRow base e size v n xs) (hv : ∀ b, v.ownBlock = some b → ¬ F b) : w'.ownsRow base e size v n xs := by
  rcases ho with ⟨hl, ⟨rfl, rfl⟩ | ⟨g, cap, cur, rfl, h1, h2, h3⟩⟩
  · exact ⟨hl, .inl ⟨rfl, rfl⟩⟩
  · exact ⟨hl, .inr ⟨g, cap, cur, rfl, h1, (h.block g (Array.getElem?_eq_some_iff.1 h2).1 (hv g rfl)).trans h2, h3⟩⟩
end

/-- What the closure leaves: the list lessened where it can be, one block written. -/
def ApplyPost (g cap n base : Nat) (L : List Int) (p : Pd) (w : World) (e : Ending) (w' : World) : Prop :=
  e = .returned (.bool (decide (Less L p))) ∧ w'.ownsRow base 3 1 (.slice (some ⟨g, 0, none⟩) n cap) n (ints (if Less L p then L.set p.head.toNat (sumOf L p.body) else L)) ∧ Fr (fun k => k = g) (fun k => k = g) w w'

set_option maxRecDepth 100000 in
set_option maxHeartbeats 2000000 in
theorem clos29 (lb g cap n base : Nat) (L : List Int) (p : Pd) (K : Option Addr) (kc : Nat) (w : World) (hc : w.cell? ⟨lb, 0, none⟩ = some (.slice (some ⟨g, 0, none⟩) n cap)) (ho : w.ownsRow base 3 1 (.slice (some ⟨g, 0, none⟩) n cap) n (ints L)) (hL : L.length = n)
    (hk : Syms w K p.body) (hb : BodyIn n p.body) (hg : Good L) (hn : n ≤ 200) (h0 : 0 ≤ p.head) (h1 : p.head < n) :
    Calls Try.prog 41 #[.agg #[.int .i64 p.head, .slice K p.body.length kc], .pointer (some ⟨lb, 0, none⟩)] w (ApplyPost g cap n base L p w) := by
  have hlb := cell_lt hc
  simp only at hlb
  have HK := Lib.hid hk
  have HB := Lib.hid hb
  have HG := Lib.hid hg
  have HL := Lib.hid hL
  have hb2 := hb.1
  have HO := Lib.hid ho
  clear hk hb hg hL ho
  go_enter Try.func41, Try.ntmps41
  go_wp2_with fail
  refine (leastSum_n n p.body L K kc (some ⟨g, 0, none⟩) cap _ (HK.out.keep (below_box _)) ((own_row HO.out).keep (below_box _)) HL.out HB.out HG.out hn).mono ?_
  rintro e w2 ⟨rfl, hbw⟩
  have bw : Below w.heap.size w w2 := (below_box _).trans (hbw.mono (by simp))
  have hls : LS w2 g cap L w2 → True := fun _ => trivial
  have ho2 := own_keep HO.out bw
  have hc2 := cell_keep bw hc
  obtain ⟨x, hx⟩ : ∃ x : Nat, p.head = x := ⟨p.head.toNat, by omega⟩
  have y0 : w2.cell? ⟨w.heap.size, 0, none⟩ = some (.int .i64 p.head) := cell_keep hbw (by simp)
  rw [hx] at y0
  have hy := cell_lt y0
  simp only at hy
  obtain ⟨z, hz⟩ : ∃ z : Int, sumOf L p.body = z := ⟨_, rfl⟩
  have hzb := sumOf_bound L p.body hb2
  rw [hz] at hzb ⊢
  obtain ⟨b', off', e', ca⟩ := at_row (own_row ho2) (h := p.head) h0 (by rw [HL.out]; exact h1)
  injection e' with e'
  injection e' with e1 e2
  subst e1 e2
  rw [hx] at ca
  simp only [Int.toNat_natCast, Nat.zero_add] at ca
  obtain ⟨v, hv⟩ : ∃ v : Int, at_ L (x : Int) = v := ⟨_, rfl⟩
  rw [hv] at ca
  have HV := Lib.hid hv
  have HX := Lib.hid hx
  have HZ := Lib.hid hz
  have hxk' : (x : Int) < (n : Int) := by omega
  have hxk : x < n := by omega
  have fz : w2.frozen? ⟨g, x, none⟩ = false := own_frozen ho2 x
  have HO2 := Lib.hid ho2
  have FR := Lib.hid (Fr.of_below (fun k => k = g) bw)
  have HBW := Lib.hid bw
  clear hv hx hz hc hbw bw ho2 hls
  have no : ∀ (LE : ¬ Less L p), Hid (ApplyPost g cap n base L p w (.returned (.bool false)) w2) := fun LE => ⟨by rw [decide_eq_false LE], by rw [if_neg LE]; exact HO2.out, FR.out⟩
  have yes : ∀ (LE : Less L p), Hid (ApplyPost g cap n base L p w (.returned (.bool true)) (w2.setCell ⟨g, x, none⟩ (.int .i64 z))) := fun LE => by
    refine ⟨by rw [decide_eq_true LE], ?_, FR.out.setCell (p := ⟨g, x, none⟩) rfl _⟩
    rw [if_pos LE]
    have := own_set HO2.out x hxk (.int .i64 z)
    rw [ints_set] at this
    rw [HX.out, HZ.out]
    simpa using this
  have NO := Lib.hid no
  have YES := Lib.hid yes
  clear no yes
  by_cases q : z < 0
  · have A := NO.out (fun h => by have := h.1; rw [HZ.out] at this; omega)
    go_wp2
    go_ret
    exact A.out
  · by_cases q1 : v < 0
    · have A := YES.out ⟨by rw [HZ.out]; omega, .inl (by rw [HX.out, HV.out]; omega)⟩
      have q1' : ¬ (0 : Int) ≤ v := by omega
      go_wp2
      go_ret
      exact A.out
    · have q1' : (0 : Int) ≤ v := by omega
      by_cases q2 : v ≤ z
      · have A := NO.out (fun h => by have := h.2; rw [HX.out, HV.out, HZ.out] at this; omega)
        go_wp2
        go_ret
        exact A.out
      · have A := YES.out ⟨by rw [HZ.out]; omega, .inr (by rw [HX.out, HV.out, HZ.out]; omega)⟩
        go_wp2
        go_ret
        exact A.out

end Go.Proofs.Ytkgiklmdpdakbaa

/- A work list: a queue and flags. Taking from it, adding to it. -/
namespace Go.Proofs.Ytkgiklmdpdakbaa
open Go.RowKit
set_option linter.unusedVariables false

theorem Own.ne {w : World} {g g' : Nat} {t t' : TypeId} {xs ys : List Value} (h : Own w g t xs) (h' : Own w g' t' ys) (ht : t ≠ t') : g ≠ g' := by
  intro e
  subst e
  unfold Own at h h'
  rw [h] at h'
  injection h' with h'
  injection h' with _ h'
  exact ht h'
theorem Own.frame {F F' : Nat → Prop} {w w' : World} {g : Nat} {t : TypeId} {ys : List Value} (ho : Own w g t ys) (h : Fr F F' w w') (hg : ¬ F g) : Own w' g t ys := h.own ho hg

/-- A queue of numbers: a part of a block of one's own. -/
def QRow (base : Nat) (v : Value) (q : List Nat) (w : World) : Prop :=
  (v = .slice none 0 0 ∧ q = []) ∨ ∃ b off cap cur, v = .slice (some ⟨b, off, none⟩) q.length cap ∧ base ≤ b ∧ Own w b 3 cur ∧ q.length ≤ cap ∧ off + cap ≤ cur.length ∧ cap ≤ maxLen ∧ ∀ i (h : i < q.length), cur[off + i]? = some (.int .i64 (q[i] : Nat))

section
variable {base : Nat} {v : Value} {q : List Nat} {w w' : World}
theorem QRow.shape (h : QRow base v q w) : ∃ A cap, v = .slice A q.length cap := by
  rcases h with ⟨rfl, rfl⟩ | ⟨b, off, cap, cur, rfl, _⟩
  · exact ⟨none, 0, rfl⟩
  · exact ⟨_, _, rfl⟩
theorem QRow.same (h : QRow base v q w) (hb : ∀ b, v.ownBlock = some b → w'.heap[b]? = w.heap[b]?) : QRow base v q w' := by
  rcases h with h | ⟨b, off, cap, cur, rfl, h1, h2, h3⟩
  · exact .inl h
  · exact .inr ⟨b, off, cap, cur, rfl, h1, (hb b rfl).trans h2, h3⟩
theorem QRow.lt (h : QRow base v q w) {b : Nat} (hb : v.ownBlock = some b) : base ≤ b ∧ b < w.heap.size ∧ ∃ cur, Own w b 3 cur := by
  rcases h with ⟨rfl, _⟩ | ⟨b', off, cap, cur, rfl, h1, h2, h3⟩
  · cases hb
  · injection hb with hb
    subst hb
    exact ⟨h1, h2.lt, cur, h2⟩

theorem own_of_rowQ {base' : Nat} {n : Nat} {xs : List Value} (h : w.ownsRow base' 3 1 v n xs) (hb : base ≤ base') (hq : q.length = n) (hx : xs = q.map (fun j => .int .i64 (j : Nat))) : QRow base v q w := by
  rcases h with ⟨hl, ⟨rfl, h0⟩ | ⟨g, cap, cur, rfl, h1, h2, h3, h4, h5, h6⟩⟩
  · subst h0; exact .inl ⟨rfl, List.eq_nil_of_length_eq_zero hq⟩
  · subst hq
    refine .inr ⟨g, 0, cap, cur.toList, rfl, by omega, by unfold Own; simpa using h2, h3, by simp [h5], h4, fun i hi => ?_⟩
    have e : (cur.toList.take (q.length * 1))[i]? = xs[i]? := by rw [h6]
    rw [List.getElem?_take_of_lt (by omega)] at e
    rw [Nat.zero_add, e, hx]
    simp [hi]

/-- One more number is put behind the others. -/
theorem run_append_q {P : Program} (ty : TypeId) (i0 : TypeInfo) (ht : P.underlying 41 = some (.slice 3)) (hi : P.info? 3 = some i0) (hz : i0.zero = some (.int .i64 0)) (hsize : i0.size = 1) (hby : i0.bytes = 8)
    (h : QRow base v q w) (ad : Addr) (x : Nat) (hnew : ∀ j u, ([.int .i64 (x : Nat)] : List Value)[j]? = some u → w.cell? (ad.add j) = some u) (hq : q.length ≤ 1048576) (hbase : base ≤ w.heap.size) :
    ∃ v' w', (Builtin.append_ #[41, 41] ty #[v, .slice (some ad) 1 1]).run P w = .ok v' w' ∧ QRow base v' (q ++ [x]) w' ∧ w.grownBy w' v.ownBlock ∧ (v'.ownBlock = v.ownBlock ∨ ∃ k, v'.ownBlock = some k ∧ w.heap.size ≤ k) := by
  have hml : q.length + 1 ≤ maxLen := by unfold maxLen; omega
  rcases h with ⟨rfl, rfl⟩ | ⟨b, off, cap, cur, rfl, h1, h2, h3, h4, h5, h6⟩
  · obtain ⟨v', w', hr, ho, hg, _, hat⟩ := run_append_own_at (P := P) w base 41 ty 3 i0 (.int .i64 0) 1 8 ht hi hz hsize hby rfl (by decide) (.slice none 0 0) 0 [] (World.ownsRow_nil _ _ _ _) ad 1 1 [.int .i64 (x : Nat)] rfl hnew (by intro u hu; simp at hu; subst hu; rfl) (by unfold maxLen; omega) (by omega) hbase
    exact ⟨v', w', hr, own_of_rowQ ho (Nat.le_refl _) (by simp) (by simp), hg, hat.imp id (fun e => ⟨_, e, Nat.le_refl _⟩)⟩
  · by_cases hroom : q.length + 1 ≤ cap
    · have hr := run_append_room_cells (P := P) w 41 ty 3 i0 ht hi b off q.length cap ad 1 1 [.int .i64 (x : Nat)] (by rw [hsize]; rfl) hnew (by intro u hu; simp at hu; subst hu; rfl) hroom
        (by intro j hj; simp at hj; subst hj; rw [h2.cell, hsize]; simp; omega) (by intro j hj; exact h2.frozen _)
      rw [hsize] at hr
      simp only [Nat.mul_one, World.setCells] at hr
      refine ⟨_, _, hr, .inr ⟨b, off, cap, cur.set (off + q.length) (.int .i64 (x : Nat)), by simp, h1, h2.set_ _ _, by simpa using hroom, by simpa using h4, h5, fun i hi => ?_⟩, ⟨rfl, rfl, rfl, by simp, fun k hk hkb => Below.heap_setCell w _ _ k (fun e => hkb (by rw [e]; rfl))⟩, .inl rfl⟩
      by_cases hi2 : i < q.length
      · rw [List.getElem?_set_ne (by omega), h6 i hi2, List.getElem_append_left hi2]
      · have : i = q.length := by simp at hi; omega
        subst this
        rw [List.getElem?_set_self (by omega)]
        simp
    · have holds : ∀ j u, (q.map (fun j => (.int .i64 (j : Nat) : Value)))[j]? = some u → w.cell? ((⟨b, off, none⟩ : Addr).add j) = some u := by
        intro j u hu
        have hj : j < q.length := by
          rcases Nat.lt_or_ge j q.length with h | h
          · exact h
          · rw [List.getElem?_eq_none (by simpa using h)] at hu; cases hu
        have e1 : (Addr.add ⟨b, off, none⟩ j) = ⟨b, off + j, none⟩ := by unfold Addr.add; split <;> simp_all
        rw [e1, h2.cell, h6 j hj]
        simp [hj] at hu
        rw [← hu]
      obtain ⟨v', w', hr, ho, hg⟩ := run_append_arg_grows (P := P) w 41 ty 3 i0 (.int .i64 0) 1 8 ht hi hz hsize hby rfl (by decide) ⟨b, off, none⟩ q.length cap (q.map (fun j => (.int .i64 (j : Nat) : Value))) (by simp) holds ad 1 1 [.int .i64 (x : Nat)] rfl hnew (by omega) hml (by omega)
      refine ⟨v', w', hr, own_of_rowQ ho hbase (by simp) (by simp), ⟨hg.os, hg.tape, hg.output, hg.size, fun k hk _ => hg.block k hk (by simp)⟩, ?_⟩
      obtain ⟨g', c', hv, hg1, hg2⟩ := own_some ho (by omega)
      exact .inr ⟨g', by rw [hv]; rfl, hg1⟩
end

theorem wpList_append_q {P : Program} {w : World} {ops : Array Oper} {rest : List Oper} {o : Oper} {a : Act} {Q : Exit → Act → World → Prop} (hgd : o.guard = none) (s x : Operand)
    (ho : o.op = .call { callee := .builtin .append, args := #[s, x], argTypes := #[41, 41] })
    (i0 : TypeInfo) (ht : P.underlying 41 = some (.slice 3)) (hi : P.info? 3 = some i0) (hz : i0.zero = some (.int .i64 0)) (hsize : i0.size = 1) (hby : i0.bytes = 8)
    (base : Nat) (v : Value) (q : List Nat) (hs : a.eval s = v) (hq : QRow base v q w) (ad : Addr) (y : Nat) (hx : a.eval x = .slice (some ad) 1 1) (hnew : ∀ j u, ([.int .i64 (y : Nat)] : List Value)[j]? = some u → w.cell? (ad.add j) = some u)
    (hl : q.length ≤ 1048576) (hbase : base ≤ w.heap.size)
    (h : ∀ v' w', QRow base v' (q ++ [y]) w' → w.grownBy w' v.ownBlock → (v'.ownBlock = v.ownBlock ∨ ∃ k, v'.ownBlock = some k ∧ w.heap.size ≤ k) → wpList P ops Q rest (a.put o.dst v') w') :
    wpList P ops Q (o :: rest) a w := by
  refine wpList_plain hgd fun K hK => ?_
  obtain ⟨v', w', hr, h2, h3, h4⟩ := run_append_q (P := P) (w := w) o.type i0 ht hi hz hsize hby hq ad y hnew hl hbase
  unfold Oper.wp execOp
  simp only [ho, resolve, invoke, builtin, Sem.run_bind, Sem.run_pure, Result.andThen_ok, List.map_toArray, List.map_cons, List.map_nil, hs, hx, hr]
  exact hK _ _ (h v' w' h2 h3 h4)

/-- The blocks of a work list. -/
def WF (wl wb : Nat) (qv : Value) (k : Nat) : Prop := k = wl ∨ k = wb ∨ qv.ownBlock = some k

/-- A work list in memory. -/
structure WL (base wl wb m : Nat) (qv : Value) (q : List Nat) (ws : List Bool) (w : World) : Prop where
  box : Own w wl 104 [qv, .slice (some ⟨wb, 0, none⟩) m m]
  wt : Own w wb 4 (ws.map .bool)
  qr : QRow base qv q w
  b1 : base ≤ wl
  b2 : base ≤ wb

/-- What holds of it: the flags say what waits. -/
structure WOK (m : Nat) (q : List Nat) (ws : List Bool) : Prop where
  l : ws.length = m
  nd : q.Nodup
  lt : ∀ j ∈ q, j < m
  fl : ∀ j (h : j < ws.length), ws[j] = true ↔ j ∈ q

theorem nodup_len : ∀ (m : Nat) (q : List Nat), q.Nodup → (∀ j ∈ q, j < m) → q.length ≤ m
  | 0, q, _, h => by
    cases q with
    | nil => simp
    | cons a r => have := h a (List.mem_cons_self ..); omega
  | m + 1, q, hn, h => by
    have h1 := nodup_len m (q.erase m) (hn.erase m) (fun j hj => by
      have h2 := (hn.mem_erase_iff).1 hj
      have h3 := h j h2.2
      have h4 := h2.1
      omega)
    rw [List.length_erase] at h1
    split at h1 <;> omega
theorem WOK.len {m : Nat} {q : List Nat} {ws : List Bool} (h : WOK m q ws) : q.length ≤ m := nodup_len m q h.nd h.lt
theorem WOK.add {m : Nat} {q : List Nat} {ws : List Bool} (h : WOK m q ws) {j : Nat} (hj : j < m) (hf : j ∉ q) : WOK m (q ++ [j]) (ws.set j true) := by
  refine ⟨by simp [h.l], ?_, ?_, ?_⟩
  · rw [List.nodup_append]
    exact ⟨h.nd, by simp, fun a ha b hb => by rw [List.mem_singleton.1 hb]; exact fun e => hf (e ▸ ha)⟩
  · intro i hi
    rcases List.mem_append.1 hi with h1 | h1
    · exact h.lt i h1
    · rw [List.mem_singleton.1 h1]; exact hj
  · intro i hi
    have hi' : i < ws.length := by simpa using hi
    rw [List.getElem_set]
    by_cases e : j = i
    · subst e; simp
    · rw [if_neg e, h.fl i hi', List.mem_append, List.mem_singleton]
      exact ⟨.inl, fun h => h.resolve_right (fun h => e h.symm)⟩
theorem WOK.take {m : Nat} {j : Nat} {q : List Nat} {ws : List Bool} (h : WOK m (j :: q) ws) : WOK m q (ws.set j false) := by
  have hn := List.nodup_cons.1 h.nd
  refine ⟨by simp [h.l], hn.2, fun i hi => h.lt i (List.mem_cons_of_mem _ hi), fun i hi => ?_⟩
  have hi' : i < ws.length := by simpa using hi
  rw [List.getElem_set]
  by_cases e : j = i
  · subst e
    rw [if_pos rfl]
    exact ⟨fun h => (by cases h), fun h => absurd h hn.1⟩
  · rw [if_neg e, h.fl i hi', List.mem_cons]
    exact ⟨fun h => h.resolve_left (fun h => e h.symm), .inr⟩

section
variable {base wl wb m : Nat} {qv qv' : Value} {q q' : List Nat} {ws : List Bool} {w w' : World}
theorem WL.n1 (h : WL base wl wb m qv q ws w) : wl ≠ wb := h.box.ne h.wt (by decide)
theorem WL.n2 (h : WL base wl wb m qv q ws w) : qv.ownBlock ≠ some wl := fun e => by
  obtain ⟨_, _, cur, hc⟩ := h.qr.lt e
  exact h.box.ne hc (by decide) rfl
theorem WL.n3 (h : WL base wl wb m qv q ws w) : qv.ownBlock ≠ some wb := fun e => by
  obtain ⟨_, _, cur, hc⟩ := h.qr.lt e
  exact h.wt.ne hc (by decide) rfl
theorem WL.foot (h : WL base wl wb m qv q ws w) {k : Nat} (hk : WF wl wb qv k) : base ≤ k := by
  rcases hk with rfl | rfl | hk
  · exact h.b1
  · exact h.b2
  · exact (h.qr.lt hk).1
theorem WL.keep (h : WL base wl wb m qv q ws w) (hb : Below w.heap.size w w') : WL base wl wb m qv q ws w' :=
  ⟨h.box.keep hb, h.wt.keep hb, h.qr.same (fun b e => hb.block b (h.qr.lt e).2.1), h.b1, h.b2⟩
theorem WL.frame {F F' : Nat → Prop} (h : WL base wl wb m qv q ws w) (hf : Fr F F' w w') (hF : ∀ k, F k → k < base) : WL base wl wb m qv q ws w' :=
  ⟨hf.own h.box (fun e => by have := hF _ e; have := h.b1; omega), hf.own h.wt (fun e => by have := hF _ e; have := h.b2; omega), h.qr.same (fun b e => hf.block b (h.qr.lt e).2.1 (fun e2 => by have := hF _ e2; have := (h.qr.lt e).1; omega)), h.b1, h.b2⟩
/-- A flag is set. -/
theorem WL.flag (h : WL base wl wb m qv q ws w) (j : Nat) (f : Bool) : WL base wl wb m qv q (ws.set j f) (w.setCell ⟨wb, j, none⟩ (.bool f)) := by
  refine ⟨h.box.far (by simpa using h.n1) _, ?_, h.qr.same (fun b e => Below.heap_setCell w _ _ b (fun e2 => h.n3 (by rw [e, e2]))), h.b1, h.b2⟩
  have := h.wt.set_ j (.bool f)
  rwa [← List.map_set] at this
/-- The queue is another one. -/
theorem WL.swap (h : WL base wl wb m qv q ws w) (hg : w.grownBy w' qv.ownBlock) (hq : QRow base qv' q' w') : WL base wl wb m qv' q' ws (w'.setCell ⟨wl, 0, none⟩ qv') := by
  have o1 : Own w' wl 104 [qv, .slice (some ⟨wb, 0, none⟩) m m] := (hg.block wl h.box.lt (fun e => h.n2 e.symm)).trans h.box
  have o2 : Own w' wb 4 (ws.map .bool) := (hg.block wb h.wt.lt (fun e => h.n3 e.symm)).trans h.wt
  refine ⟨o1.set_ 0 qv', o2.far (by simpa using (h.n1).symm) _, hq.same (fun b e => Below.heap_setCell w' _ _ b (fun e2 => ?_)), h.b1, h.b2⟩
  obtain ⟨_, _, cur, hc⟩ := hq.lt e
  exact o1.ne hc (by decide) (by simpa using e2.symm)
end

def TakePost (base wl wb m j : Nat) (qv : Value) (q : List Nat) (ws : List Bool) (w : World) (e : Ending) (w' : World) : Prop :=
  e = .returned (.int .i64 (j : Nat)) ∧ ∃ qv', WL base wl wb m qv' q (ws.set j false) w' ∧ Fr (WF wl wb qv) (WF wl wb qv') w w'

set_option maxRecDepth 100000 in
set_option maxHeartbeats 1000000 in
theorem take_any (base wl wb m j : Nat) (qv : Value) (q : List Nat) (ws : List Bool) (w : World) (h : WL base wl wb m qv (j :: q) ws w) (hok : WOK m (j :: q) ws) (hm : m ≤ 400) :
    Calls Try.prog 60 #[.pointer (some ⟨wl, 0, none⟩)] w (TakePost base wl wb m j qv q ws w) := by
  have hlen := hok.len
  simp at hlen
  have hjm : j < m := hok.lt j (List.mem_cons_self ..)
  have hwsl := hok.l
  rcases h.qr with ⟨_, h0⟩ | ⟨b, off, cap, cur, rfl, h1, h2, h3, h4, h5, h6⟩
  · cases h0
  · have hq0 := h6 0 (by simp)
    simp only [Nat.add_zero, List.getElem_cons_zero] at hq0
    have x0 : w.cell? ⟨wl, 0, none⟩ = some (.slice (some ⟨b, off, none⟩) (q.length + 1) cap) := by rw [h.box.cell]; rfl
    have x1 : w.cell? ⟨wl, 1, none⟩ = some (.slice (some ⟨wb, 0, none⟩) m m) := by rw [h.box.cell]; rfl
    have y0 : w.cell? ⟨b, off, none⟩ = some (.int .i64 (j : Nat)) := by rw [h2.cell]; exact hq0
    have z0 : w.cell? ⟨wb, j, none⟩ = some (.bool (ws[j]'(by omega))) := by rw [h.wt.cell]; simp [show j < ws.length by omega]
    have f0 := h.box.frozen 0
    have f1 := h.wt.frozen j
    simp only [List.length_cons] at h3
    have n1 := h.n1
    have hc1 : 1 ≤ cap := by omega
    have hbl : b ≠ wl := fun e => h.box.ne h2 (by decide) e.symm
    have hbw : b ≠ wb := fun e => h.wt.ne h2 (by decide) e.symm
    have lt1 := h.box.lt
    have lt2 := h.wt.lt
    have lt3 := h2.lt
    by_cases hcap : cap = 1
    · have hql : q.length = 0 := by omega
      have hq : QRow base (.slice (some ⟨b, off, none⟩) q.length 0) q w := .inr ⟨b, off, 0, cur, rfl, h1, h2, by omega, by omega, by omega, fun i hi => by omega⟩
      have hgb : w.grownBy w (Value.slice (some ⟨b, off, none⟩) (j :: q).length cap).ownBlock := ⟨rfl, rfl, rfl, Nat.le_refl _, fun _ _ _ => rfl⟩
      have HW := (h.swap hgb hq).flag j false
      have hF : Fr (WF wl wb (.slice (some ⟨b, off, none⟩) (j :: q).length cap)) (WF wl wb (.slice (some ⟨b, off, none⟩) q.length 0)) w ((w.setCell ⟨wl, 0, none⟩ (.slice (some ⟨b, off, none⟩) q.length 0)).setCell ⟨wb, j, none⟩ (.bool false)) := by
        have e : Fr (WF wl wb (.slice (some ⟨b, off, none⟩) (j :: q).length cap)) (WF wl wb (.slice (some ⟨b, off, none⟩) q.length 0)) w w := ⟨rfl, rfl, rfl, Nat.le_refl _, fun _ _ _ => rfl, fun _ _ h => h⟩
        exact (e.setCell (p := ⟨wl, 0, none⟩) (.inl rfl) _).setCell (p := ⟨wb, j, none⟩) (.inr (.inl rfl)) _
      have HQL := Lib.hid hql
      have HCP := Lib.hid hcap
      have HWW := Lib.hid HW
      have HFF := Lib.hid hF
      clear h hq hgb HW hF h6 hok hq0 h2 hql
      have hlq : (0 : Int) < ((q.length : Int) + 1) := by omega
      have hjm' : (j : Int) < (m : Int) := by omega
      go_enter Try.func60, Try.ntmps60
      go_wp2
      go_ret
      exact ⟨rfl, _, HWW.out, HFF.out⟩

    · have hcap2 : 2 ≤ cap := by omega
      have hq : QRow base (.slice (some ⟨b, off + 1, none⟩) q.length (cap - 1)) q w := .inr ⟨b, off + 1, cap - 1, cur, rfl, h1, h2, by omega, by omega, by omega, fun i hi => by
        have := h6 (i + 1) (by simpa using hi)
        rw [show off + 1 + i = off + (i + 1) by omega, this]; rfl⟩
      have hgb : w.grownBy w (Value.slice (some ⟨b, off, none⟩) (j :: q).length cap).ownBlock := ⟨rfl, rfl, rfl, Nat.le_refl _, fun _ _ _ => rfl⟩
      have HW := (h.swap hgb hq).flag j false
      have hF : Fr (WF wl wb (.slice (some ⟨b, off, none⟩) (j :: q).length cap)) (WF wl wb (.slice (some ⟨b, off + 1, none⟩) q.length (cap - 1))) w ((w.setCell ⟨wl, 0, none⟩ (.slice (some ⟨b, off + 1, none⟩) q.length (cap - 1))).setCell ⟨wb, j, none⟩ (.bool false)) := by
        have e : Fr (WF wl wb (.slice (some ⟨b, off, none⟩) (j :: q).length cap)) (WF wl wb (.slice (some ⟨b, off + 1, none⟩) q.length (cap - 1))) w w := ⟨rfl, rfl, rfl, Nat.le_refl _, fun _ _ _ => rfl, fun _ _ h => h⟩
        exact (e.setCell (p := ⟨wl, 0, none⟩) (.inl rfl) _).setCell (p := ⟨wb, j, none⟩) (.inr (.inl rfl)) _
      have HWW := Lib.hid HW
      have HFF := Lib.hid hF
      clear h hq hgb HW hF h6 hok hq0 h2
      have hlq : (0 : Int) < ((q.length : Int) + 1) := by omega
      have hjm' : (j : Int) < (m : Int) := by omega
      go_enter Try.func60, Try.ntmps60
      go_wp2
      go_ret
      exact ⟨rfl, _, HWW.out, HFF.out⟩

end Go.Proofs.Ytkgiklmdpdakbaa

/- Adding to a work list. -/
namespace Go.Proofs.Ytkgiklmdpdakbaa
open Go.RowKit
set_option linter.unusedVariables false

theorem Fr.grow {wl wb : Nat} {qv v' : Value} {w w' : World} (hg : w.grownBy w' qv.ownBlock) (hat : v'.ownBlock = qv.ownBlock ∨ ∃ k, v'.ownBlock = some k ∧ w.heap.size ≤ k) : Fr (WF wl wb qv) (WF wl wb v') w w' := by
  refine ⟨hg.os, hg.tape, hg.output, hg.size, fun k hk hF => hg.block k hk (fun e => hF (.inr (.inr e.symm))), fun k hk hF => ?_⟩
  rcases hF with h | h | h
  · exact .inl h
  · exact .inr (.inl h)
  · rcases hat with e | ⟨k', e, hk'⟩
    · exact .inr (.inr (by rw [← e]; exact h))
    · rw [e] at h
      injection h with h
      omega

def nats (q : List Nat) : List Value := q.map (fun j => .int .i64 (j : Nat))
theorem nats_eq (q : List Nat) : nats q = ints (q.map Int.ofNat) := by simp [nats, ints]
theorem Row.nat {w : World} {A : Option Addr} {q : List Nat} (h : Row w A (nats q)) {k : Nat} (hk : k < q.length) : ∃ b off, A = some ⟨b, off, none⟩ ∧ w.cell? ⟨b, off + k, none⟩ = some (.int .i64 (q[k] : Nat)) := by
  obtain ⟨b, off, ha, hc⟩ := h.at_ (k := k) (by simpa [nats] using hk)
  exact ⟨b, off, ha, by rw [hc]; simp [nats]⟩

/-- What adding leaves. -/
def AddPost (base wl wb m : Nat) (qv : Value) (q idx : List Nat) (w : World) (e : Ending) (w' : World) : Prop :=
  e = .returned (.tuple #[]) ∧ ∃ qv' q' ws', WL base wl wb m qv' q' ws' w' ∧ WOK m q' ws' ∧ (∀ j ∈ q, j ∈ q') ∧ (∀ j ∈ idx, j ∈ q') ∧ Fr (WF wl wb qv) (WF wl wb qv') w w'

set_option maxRecDepth 100000 in
set_option maxHeartbeats 2000000 in
theorem add_any (base wl wb m : Nat) (qv : Value) (q idx : List Nat) (ws : List Bool) (A : Option Addr) (c : Nat) (w : World) (h : WL base wl wb m qv q ws w) (hok : WOK m q ws) (hm : m ≤ 400)
    (hi : Row w A (nats idx)) (hA : ∀ p, A = some p → ¬ WF wl wb qv p.block) (hidx : ∀ j ∈ idx, j < m) (hl : idx.length ≤ 1048576) (hbase : base ≤ w.heap.size) :
    Calls Try.prog 59 #[.pointer (some ⟨wl, 0, none⟩), .slice A idx.length c] w (AddPost base wl wb m qv q idx w) := by
  obtain ⟨i0, hi0, hz0, hz1, hz2⟩ := info_parts info3
  have HI := Lib.hid (And.intro hi0 (And.intro hz0 (And.intro hz1 hz2)))
  clear hi0 hz0 hz1 hz2
  have HR := Lib.hid hi
  have HA := Lib.hid hA
  have HX := Lib.hid hidx
  clear hi hA hidx
  go_enter Try.func59, Try.ntmps59
  go_wp2
  go_loopw [8] (fun i wr => ∃ k : Nat, k ≤ idx.length ∧ i = .int .i64 k ∧ ∃ qv' q' ws', WL base wl wb m qv' q' ws' wr ∧ Hid (WOK m q' ws') ∧ Hid (∀ j ∈ q, j ∈ q') ∧ Hid (∀ i (h : i < idx.length), i < k → idx[i] ∈ q') ∧ Fr (WF wl wb qv) (WF wl wb qv') w wr) (fun i _ => idx.length - (intOf i).toNat)
  case atStart => exact ⟨0, Nat.zero_le _, rfl, qv, q, ws, h, hok, fun j hj => hj, fun i _ hi => by omega, Fr.refl _ _⟩
  case round =>
    clear h hok
    obtain ⟨k, hk, rfl, qv', q', ws', h, HOK, HQ, HI2, hf⟩ := hrel
    have hsz := hf.size
    by_cases hlt : k < idx.length
    · have hlt' : (k : Int) < (idx.length : Int) := by omega
      obtain ⟨b, off, rfl, hc⟩ := (hf.row HR.out HA.out).nat hlt
      have hjm := HX.out _ (List.getElem_mem hlt)
      have HE : Hid (∀ Q : List Nat, (∀ i (h : i < idx.length), i < k → idx[i] ∈ Q) → idx[k] ∈ Q → ∀ i (h : i < idx.length), i < k + 1 → idx[i] ∈ Q) := fun Q h1 h2 i hi hik => by
        rcases Nat.lt_succ_iff_lt_or_eq.1 hik with h3 | h3
        · exact h1 i hi h3
        · subst h3; exact h2
      generalize idx[k] = j at *
      have hwl := HOK.out.l
      have hjw : j < ws'.length := by omega
      have hql := HOK.out.len
      have x1 : wr.cell? ⟨wl, 1, none⟩ = some (.slice (some ⟨wb, 0, none⟩) m m) := by rw [h.box.cell]; rfl
      have z0 : wr.cell? ⟨wb, j, none⟩ = some (.bool ws'[j]) := by rw [h.wt.cell]; simp [hjw]
      have HFL := Lib.hid (HOK.out.fl j hjw)
      have f1 := h.wt.frozen j
      have hjm' : (j : Int) < (m : Int) := by omega
      have lt1 := h.box.lt
      have lt2 := h.wt.lt
      have n1 := h.n1
      cases hfl : ws'[j]
      · rw [hfl] at z0
        have hnq : j ∉ q' := fun hj => by have := HFL.out.2 hj; rw [hfl] at this; cases this
        have HOK2 := Lib.hid (HOK.out.add (by omega) hnq)
        have h1 := h.flag j true
        have hf1 : Fr (WF wl wb qv) (WF wl wb qv') w (wr.setCell ⟨wb, j, none⟩ (.bool true)) := hf.setCell (p := ⟨wb, j, none⟩) (.inr (.inl rfl)) _
        have h2 := h1.keep (below_box (.cells #[.int .i64 (j : Nat)] 3))
        have hf2 := hf1.trans (Fr.of_below (WF wl wb qv') (below_box (.cells #[.int .i64 (j : Nat)] 3)))
        obtain ⟨QA, qc, rfl⟩ := h.qr.shape
        have x0 : wr.cell? ⟨wl, 0, none⟩ = some (.slice QA q'.length qc) := by rw [h.box.cell]; rfl
        have f0 := h.box.frozen 0
        have HH2 := Lib.hid h2
        have HF2 := Lib.hid hf2
        clear hfl hwl hnq h h1 hf hf1 h2 hf2 HFL HOK
        go_wp2_with (at_builtin; refine wpList_append_q rfl _ _ rfl i0 Try.underlying41 HI.out.1 HI.out.2.1 HI.out.2.2.1 HI.out.2.2.2 base _ q' rfl HH2.out.qr ⟨wr.heap.size, 0, none⟩ j rfl ?c2 (by omega) ?c3 ?_)
        case c2 => have := cell_one_new (wr.setCell ⟨wb, j, none⟩ (.bool true)) (.int .i64 (j : Nat)) 3; simpa using this
        case c3 => simp; omega
        · intro v' w3 hq3 hg3 hat3
          have H3 := HH2.out.swap hg3 hq3
          have F3 := (HF2.out.trans (Fr.grow hg3 (hat3.imp id (fun ⟨k, e, hk⟩ => ⟨k, e, by simpa using hk⟩)))).setCell (p := ⟨wl, 0, none⟩) (.inl rfl) v'
          have HE2 := Lib.hid (HE.out (q' ++ [j]) (fun i hi hik => List.mem_append_left _ (HI2.out i hi hik)) (List.mem_append_right _ (List.mem_singleton.2 rfl)))
          have HQ2 : Hid (∀ j' ∈ q, j' ∈ q' ++ [j]) := fun j' hj' => List.mem_append_left _ (HQ.out j' hj')
          obtain ⟨A3, c3, hv3⟩ := hq3.shape
          subst hv3
          have o1 : Own w3 wl 104 [.slice QA q'.length qc, .slice (some ⟨wb, 0, none⟩) m m] := (hg3.block wl HH2.out.box.lt (fun e => HH2.out.n2 e.symm)).trans HH2.out.box
          have y0 : w3.cell? ⟨wl, 0, none⟩ = some (.slice QA q'.length qc) := by rw [o1.cell]; rfl
          have g0 := o1.frozen 0
          have lt4 := o1.lt
          simp only [List.length_append, List.length_cons, List.length_nil, Nat.zero_add] at H3 F3
          have HH3 := Lib.hid H3
          have HF3 := Lib.hid F3
          clear HH2 HF2 hg3 hq3 hat3 H3 F3 o1 HE HI2 HQ x0 f0 z0 f1 x1 hc
          go_wp2
          go_roundw
          case rel => exact ⟨k + 1, by omega, by go_num, _, q' ++ [j], _, HH3.out, HOK2, HQ2, HE2, HF3.out⟩
          case measure => simp [intOf]; omega
      · rw [hfl] at z0
        have hin : j ∈ q' := HFL.out.1 hfl
        have HE2 := Lib.hid (HE.out q' HI2.out hin)
        clear hfl hwl HE HI2 HFL
        go_wp2
        go_roundw
        case rel => exact ⟨k + 1, by omega, by go_num, qv', q', ws', h, HOK, HQ, HE2, hf⟩
        case measure => simp [intOf]; omega
    · have hlt' : ¬ (k : Int) < (idx.length : Int) := by omega
      go_wp2
      go_end0
      refine ⟨rfl, qv', q', ws', h, HOK, HQ, fun j hj => ?_, hf⟩
      obtain ⟨i, hi, rfl⟩ := List.getElem_of_mem hj
      exact HI2 i hi (by omega)

end Go.Proofs.Ytkgiklmdpdakbaa

/- Rows of numbers that grow, each apart; and whether a row ends with a number. -/
namespace Go.Proofs.Ytkgiklmdpdakbaa
open Go.RowKit
set_option linter.unusedVariables false

theorem step_own_v {P : Program} (w : World) {ops : Array Oper} {o : Oper} {a : Act} {K : Act → World → Prop} {Q : Exit → Act → World → Prop} {E : Prop} (hgd : o.guard = none) (s x : Operand) (t : TypeId)
    (ho : o.op = .call { callee := .builtin .append, args := #[s, x], argTypes := #[t, t] })
    (base : Nat) (e : TypeId) (i : TypeInfo) (z : Value) (size bytes : Nat) (ht : P.underlying t = some (.slice e)) (hi : P.info? e = some i) (hz : i.zero = some z)
    (hsize : i.size = size) (hby : i.bytes = bytes) (hzs : z.cells.size = size) (hsz : 0 < size)
    (v : Value) (n : Nat) (xs : List Value) (hs : a.eval s = v) (hown : w.ownsRow base e size v n xs)
    (ad : Addr) (m c : Nat) (news : List Value) (hx : a.eval x = .slice (some ad) m c) (hl : news.length = m * size) (hnews : ∀ j u, news[j]? = some u → w.cell? (ad.add j) = some u) (h1 : ∀ u ∈ news, u.oneCell' = true)
    (h63 : n + m ≤ maxLen) (hbytes : (n + m) * bytes ≤ 140737488355328) (hbase : base ≤ w.heap.size)
    (h : ∀ v' w', w'.ownsRow base e size v' (n + m) (xs ++ news) → w.grownBy w' v.ownBlock → (v'.ownBlock = v.ownBlock ∨ v'.ownBlock = some w.heap.size) → K (a.put o.dst v') w') :
    if Region.wanted o (yielded ops a.tmps) = true then Oper.wp P o a w K Q else E := by
  have hw : Region.wanted o (yielded ops a.tmps) = true := by simp [Region.wanted, hgd]
  rw [if_pos hw]
  obtain ⟨v', w', hr, h2, h3, h4, h5⟩ := run_append_own_at (P := P) w base t o.type e i z size bytes ht hi hz hsize hby hzs hsz _ n xs hown ad m c news hl hnews h1 h63 hbytes hbase
  unfold Oper.wp execOp
  simp only [ho, resolve, invoke, builtin, Sem.run_bind, Sem.run_pure, Result.andThen_ok, List.map_toArray, List.map_cons, List.map_nil, hs, hx, hr]
  exact h v' w' h2 h3 h5

/-- Rows of numbers, each apart from the others. -/
structure UO (base U n : Nat) (val : Nat → Value) (us : Nat → List Nat) (w : World) : Prop where
  row : Own w U 41 ((List.range n).map val)
  bU : base ≤ U
  own : ∀ i, i < n → w.ownsRow base 3 1 (val i) (us i).length (nats (us i))
  apt : ∀ i j b, i < n → j < n → i ≠ j → (val i).ownBlock = some b → (val j).ownBlock ≠ some b

def updV (val : Nat → Value) (q : Nat) (u : Value) (p : Nat) : Value := if p = q then u else val p
def updL (us : Nat → List Nat) (q : Nat) (l : List Nat) (p : Nat) : List Nat := if p = q then l else us p

theorem kind3 {w : World} {base : Nat} {v : Value} {n k : Nat} {xs : List Value} (h : w.ownsRow base 3 1 v n xs) (hk : v.ownBlock = some k) : ∃ cur, Own w k 3 cur := by
  rcases h.2 with ⟨rfl, _⟩ | ⟨g, cap, cur, rfl, _, h1, _⟩
  · cases hk
  · injection hk with hk
    subst hk
    exact ⟨cur.toList, by unfold Own; simpa using h1⟩

section
variable {base U n : Nat} {val : Nat → Value} {us : Nat → List Nat} {w w' : World}
theorem UO.keep (h : UO base U n val us w) (hb : Below w.heap.size w w') : UO base U n val us w' := ⟨h.row.keep hb, h.bU, fun i hi => own_keep (h.own i hi) hb, h.apt⟩
theorem UO.frame {F F' : Nat → Prop} (h : UO base U n val us w) (hf : Fr F F' w w') (hF : ∀ k, F k → k < base ∨ w.heap.size ≤ k) : UO base U n val us w' := by
  have hl := h.row.lt
  have hb := h.bU
  refine ⟨hf.own h.row (fun e => by have := hF _ e; omega), h.bU, fun i hi => hf.ownsRow (h.own i hi) (fun b e e2 => ?_), h.apt⟩
  have := (h.own i hi).lt b e
  have := hF b e2
  omega
theorem UO.cell (h : UO base U n val us w) {i : Nat} (hi : i < n) : w.cell? ⟨U, i, none⟩ = some (val i) := by rw [h.row.cell]; simp [hi]
theorem UO.rowNe (h : UO base U n val us w) {i : Nat} (hi : i < n) : (val i).ownBlock ≠ some U := fun e => by
  obtain ⟨cur, hc⟩ := kind3 (h.own i hi) e
  exact h.row.ne hc (by decide) rfl
/-- One of the rows has grown. -/
theorem UO.app (h : UO base U n val us w) {i : Nat} (hi : i < n) {v' : Value} {x : Nat} (ho : w'.ownsRow base 3 1 v' ((us i).length + 1) (nats (us i) ++ [.int .i64 (x : Nat)])) (hg : w.grownBy w' (val i).ownBlock) (hat : v'.ownBlock = (val i).ownBlock ∨ v'.ownBlock = some w.heap.size) :
    UO base U n (updV val i v') (updL us i (us i ++ [x])) (w'.setCell ⟨U, i, none⟩ v') := by
  have hU : Own w' U 41 ((List.range n).map val) := (hg.block U h.row.lt (fun e => h.rowNe hi e.symm)).trans h.row
  have hv' : v'.ownBlock ≠ some U := fun e => by
    obtain ⟨cur, hc⟩ := kind3 ho e
    exact hU.ne hc (by decide) rfl
  refine ⟨?_, h.bU, fun j hj => ?_, fun j k b hj hk hjk e => ?_⟩
  · have := hU.set_ i v'
    have e : ((List.range n).map val).set i v' = (List.range n).map (updV val i v') := by
      apply List.ext_getElem (by simp)
      intro m h1 h2
      simp only [List.getElem_set, List.getElem_map, List.getElem_range, updV]
      by_cases e : i = m
      · subst e; simp
      · rw [if_neg e, if_neg (fun h => e h.symm)]
    rwa [e] at this
  · unfold updV updL
    by_cases e : j = i
    · subst e
      rw [if_pos rfl, if_pos rfl]
      have e2 : nats (us j) ++ [.int .i64 (x : Nat)] = nats (us j ++ [x]) := by simp [nats]
      rw [e2] at ho
      simpa using ownsRow_setCell_other ho hv' v'
    · rw [if_neg e, if_neg e]
      have h1 : w'.ownsRow base 3 1 (val j) (us j).length (nats (us j)) := (h.own j hj).kept hg (by
        by_cases e2 : (val j).ownBlock = none
        · exact .inl e2
        · right
          intro e3
          obtain ⟨k, hk⟩ := Option.ne_none_iff_exists'.1 e2
          exact h.apt j i k hj hi e hk (by rw [← e3, hk]))
      exact ownsRow_setCell_other h1 (h.rowNe hj) v'
  · unfold updV at e ⊢
    have hnew : ∀ m, m < n → m ≠ i → ∀ b, v'.ownBlock = some b → (val m).ownBlock ≠ some b := fun m hm hmi b e1 e2 => by
      rcases hat with q | q
      · rw [q] at e1; exact h.apt i m b hi hm (fun h => hmi h.symm) e1 e2
      · rw [q] at e1
        injection e1 with e1
        have := (h.own m hm).lt b e2
        omega
    by_cases e1 : j = i
    · rw [if_pos e1] at e
      rw [if_neg (fun h => hjk (by rw [e1, h]))]
      exact hnew k hk (fun h => hjk (by rw [e1, h])) b e
    · rw [if_neg e1] at e
      by_cases e2 : k = i
      · rw [if_pos e2]
        exact fun e3 => hnew j hj e1 b e3 e
      · rw [if_neg e2]
        exact h.apt j k b hj hk hjk e
end

/-- Whether a row ends with a number. -/
def endsB (l : List Nat) (x : Nat) : Bool := match l.getLast? with | some y => decide (y = x) | none => false
theorem endsB_mem {l : List Nat} {x : Nat} (h : endsB l x = true) : x ∈ l := by
  unfold endsB at h
  split at h
  · rename_i y e
    simp at h
    subst h
    exact List.mem_of_getLast? e
  · cases h

set_option maxRecDepth 100000 in
set_option maxHeartbeats 1000000 in
theorem endsWith_any (l : List Nat) (x : Nat) (A : Option Addr) (c : Nat) (w : World) (hr : Row w A (nats l)) (hl : l.length ≤ 1048576) :
    Calls Try.prog 76 #[.slice A l.length c, .int .i64 (x : Nat)] w fun e w' => e = .returned (.bool (endsB l x)) ∧ w = w' := by
  have HR := Lib.hid hr
  clear hr
  by_cases h0 : l.length = 0
  · have h0' : ¬ (0 : Int) < (l.length : Int) := by omega
    have HE : Hid (endsB l x = false) := by
      show _ = _
      rw [List.eq_nil_of_length_eq_zero h0]; rfl
    clear h0
    go_enter Try.func76, Try.ntmps76
    go_wp2
    go_ret
    exact ⟨by rw [HE.out]; rfl, rfl⟩
  · obtain ⟨m, hm⟩ : ∃ m, l.length = m + 1 := ⟨l.length - 1, by omega⟩
    obtain ⟨b, off, rfl, hc⟩ := HR.out.nat (k := m) (by omega)
    have HE : Hid (endsB l x = (((l[m]'(by omega) : Nat) : Int) == (x : Int))) := by
      show _ = _
      unfold endsB
      rw [List.getLast?_eq_getElem?, show l.length - 1 = m by omega, List.getElem?_eq_getElem (show m < l.length by omega)]
      by_cases q : l[m]'(by omega) = x
      · simp [q]
      · simp [q]; omega
    rw [hm]
    rw [hm] at hl
    generalize l[m]'(by omega) = y at *
    have hp : (0 : Int) < ((m : Int) + 1) := by omega
    have hwm : IntKind.i64.wrap ((m : Int) + 1 - 1) = (m : Int) := by rw [IntKind.wrap_i64]; omega
    have HM := Lib.hid hm
    clear hm h0
    go_enter Try.func76, Try.ntmps76
    go_wp2
    go_ret
    exact ⟨by rw [HE.out]; rfl, rfl⟩

end Go.Proofs.Ytkgiklmdpdakbaa

