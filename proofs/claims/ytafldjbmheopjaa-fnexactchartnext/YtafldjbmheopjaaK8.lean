/- Rows of numbers that grow, each apart; and whether a row ends with a number. -/
import Derived.Test.YtafldjbmheopjaaK7
namespace Go.Proofs.Ytafldjbmheopjaa
open Go.RowKit
set_option linter.unusedVariables false

theorem step_own_v {P : Program} (w : World) {ops : Array Oper} {o : Oper} {a : Act} {K : Act → World → Prop} {Q : Exit → Act → World → Prop} {E : Prop} (hgd : o.guard = none) (s x : Operand) (t : TypeId)
    (ho : o.op = .call { callee := .builtin .append, args := #[s, x], argTypes := #[t, t] })
    (base : Nat) (e : TypeId) (i : TypeInfo) (z : Value) (size bytes : Nat) (ht : P.underlying t = some (.slice e)) (hi : P.info? e = some i) (hz : i.zero = some z)
    (hsize : i.size = size) (hby : i.bytes = bytes) (hzs : z.cells.size = size) (hsz : 0 < size)
    (v : Value) (n : Nat) (xs : List Value) (hs : a.eval s = v) (hown : w.ownsRow base e size v n xs)
    (ad : Addr) (m c : Nat) (news : List Value) (hx : a.eval x = .slice (some ad) m c) (hl : news.length = m * size) (hnews : ∀ j u, news[j]? = some u → w.cell? (ad.add j) = some u) (h1 : ∀ u ∈ news, u.oneCell' = true)
    (h63 : n + m ≤ maxLen) (hbytes : (n + m) * bytes ≤ 140737488355328) (hbase : base ≤ w.heap.size)
    (h : ∀ v' w', w'.ownsRow base e size v' (n + m) (xs ++ news) → w.grownBy w' v.ownBlock → (v'.ownBlock = v.ownBlock ∨ v'.ownBlock = some w.heap.size) → K (a.put o.dst v') w') :
    if Region.wanted o (yielded ops a.tmps) = true then Oper.wp P o a w K Q else E := by
  have hw : Region.wanted o (yielded ops a.tmps) = true := by simp [Region.wanted, hgd]
  rw [if_pos hw]
  obtain ⟨v', w', hr, h2, h3, h4, h5⟩ := run_append_own_at (P := P) w base t o.type e i z size bytes ht hi hz hsize hby hzs hsz _ n xs hown ad m c news hl hnews h1 h63 hbytes hbase
  unfold Oper.wp execOp
  simp only [ho, resolve, invoke, builtin, Sem.run_bind, Sem.run_pure, Result.andThen_ok, List.map_toArray, List.map_cons, List.map_nil, hs, hx, hr]
  exact h v' w' h2 h3 h5

/-- Rows of numbers, each apart from the others. -/
structure UO (base U n : Nat) (val : Nat → Value) (us : Nat → List Nat) (w : World) : Prop where
  row : Own w U 81 ((List.range n).map val)
  bU : base ≤ U
  own : ∀ i, i < n → w.ownsRow base 3 1 (val i) (us i).length (nats (us i))
  apt : ∀ i j b, i < n → j < n → i ≠ j → (val i).ownBlock = some b → (val j).ownBlock ≠ some b

def updV (val : Nat → Value) (q : Nat) (u : Value) (p : Nat) : Value := if p = q then u else val p
def updL (us : Nat → List Nat) (q : Nat) (l : List Nat) (p : Nat) : List Nat := if p = q then l else us p

theorem kind3 {w : World} {base : Nat} {v : Value} {n k : Nat} {xs : List Value} (h : w.ownsRow base 3 1 v n xs) (hk : v.ownBlock = some k) : ∃ cur, Own w k 3 cur := by
  rcases h.2 with ⟨rfl, _⟩ | ⟨g, cap, cur, rfl, _, h1, _⟩
  · cases hk
  · injection hk with hk
    subst hk
    exact ⟨cur.toList, by unfold Own; simpa using h1⟩

section
variable {base U n : Nat} {val : Nat → Value} {us : Nat → List Nat} {w w' : World}
theorem UO.keep (h : UO base U n val us w) (hb : Below w.heap.size w w') : UO base U n val us w' := ⟨h.row.keep hb, h.bU, fun i hi => own_keep (h.own i hi) hb, h.apt⟩
theorem UO.frame {F F' : Nat → Prop} (h : UO base U n val us w) (hf : Fr F F' w w') (hF : ∀ k, F k → k < base ∨ w.heap.size ≤ k) : UO base U n val us w' := by
  have hl := h.row.lt
  have hb := h.bU
  refine ⟨hf.own h.row (fun e => by have := hF _ e; omega), h.bU, fun i hi => hf.ownsRow (h.own i hi) (fun b e e2 => ?_), h.apt⟩
  have := (h.own i hi).lt b e
  have := hF b e2
  omega
theorem UO.cell (h : UO base U n val us w) {i : Nat} (hi : i < n) : w.cell? ⟨U, i, none⟩ = some (val i) := by rw [h.row.cell]; simp [hi]
theorem UO.rowNe (h : UO base U n val us w) {i : Nat} (hi : i < n) : (val i).ownBlock ≠ some U := fun e => by
  obtain ⟨cur, hc⟩ := kind3 (h.own i hi) e
  exact h.row.ne hc (by decide) rfl
/-- One of the rows has grown. -/
theorem UO.app (h : UO base U n val us w) {i : Nat} (hi : i < n) {v' : Value} {x : Nat} (ho : w'.ownsRow base 3 1 v' ((us i).length + 1) (nats (us i) ++ [.int .i64 (x : Nat)])) (hg : w.grownBy w' (val i).ownBlock) (hat : v'.ownBlock = (val i).ownBlock ∨ v'.ownBlock = some w.heap.size) :
    UO base U n (updV val i v') (updL us i (us i ++ [x])) (w'.setCell ⟨U, i, none⟩ v') := by
  have hU : Own w' U 81 ((List.range n).map val) := (hg.block U h.row.lt (fun e => h.rowNe hi e.symm)).trans h.row
  have hv' : v'.ownBlock ≠ some U := fun e => by
    obtain ⟨cur, hc⟩ := kind3 ho e
    exact hU.ne hc (by decide) rfl
  refine ⟨?_, h.bU, fun j hj => ?_, fun j k b hj hk hjk e => ?_⟩
  · have := hU.set_ i v'
    have e : ((List.range n).map val).set i v' = (List.range n).map (updV val i v') := by
      apply List.ext_getElem (by simp)
      intro m h1 h2
      simp only [List.getElem_set, List.getElem_map, List.getElem_range, updV]
      by_cases e : i = m
      · subst e; simp
      · rw [if_neg e, if_neg (fun h => e h.symm)]
    rwa [e] at this
  · unfold updV updL
    by_cases e : j = i
    · subst e
      rw [if_pos rfl, if_pos rfl]
      have e2 : nats (us j) ++ [.int .i64 (x : Nat)] = nats (us j ++ [x]) := by simp [nats]
      rw [e2] at ho
      simpa using ownsRow_setCell_other ho hv' v'
    · rw [if_neg e, if_neg e]
      have h1 : w'.ownsRow base 3 1 (val j) (us j).length (nats (us j)) := (h.own j hj).kept hg (by
        by_cases e2 : (val j).ownBlock = none
        · exact .inl e2
        · right
          intro e3
          obtain ⟨k, hk⟩ := Option.ne_none_iff_exists'.1 e2
          exact h.apt j i k hj hi e hk (by rw [← e3, hk]))
      exact ownsRow_setCell_other h1 (h.rowNe hj) v'
  · unfold updV at e ⊢
    have hnew : ∀ m, m < n → m ≠ i → ∀ b, v'.ownBlock = some b → (val m).ownBlock ≠ some b := fun m hm hmi b e1 e2 => by
      rcases hat with q | q
      · rw [q] at e1; exact h.apt i m b hi hm (fun h => hmi h.symm) e1 e2
      · rw [q] at e1
        injection e1 with e1
        have := (h.own m hm).lt b e2
        omega
    by_cases e1 : j = i
    · rw [if_pos e1] at e
      rw [if_neg (fun h => hjk (by rw [e1, h]))]
      exact hnew k hk (fun h => hjk (by rw [e1, h])) b e
    · rw [if_neg e1] at e
      by_cases e2 : k = i
      · rw [if_pos e2]
        exact fun e3 => hnew j hj e1 b e3 e
      · rw [if_neg e2]
        exact h.apt j k b hj hk hjk e
end

/-- Whether a row ends with a number. -/
def endsB (l : List Nat) (x : Nat) : Bool := match l.getLast? with | some y => decide (y = x) | none => false
theorem endsB_mem {l : List Nat} {x : Nat} (h : endsB l x = true) : x ∈ l := by
  unfold endsB at h
  split at h
  · rename_i y e
    simp at h
    subst h
    exact List.mem_of_getLast? e
  · cases h

set_option maxRecDepth 100000 in
set_option maxHeartbeats 1000000 in
theorem endsWith_any (l : List Nat) (x : Nat) (A : Option Addr) (c : Nat) (w : World) (hr : Row w A (nats l)) (hl : l.length ≤ 1048576) :
    Calls Try.prog 95 #[.slice A l.length c, .int .i64 (x : Nat)] w fun e w' => e = .returned (.bool (endsB l x)) ∧ w = w' := by
  have HR := Lib.hid hr
  clear hr
  by_cases h0 : l.length = 0
  · have h0' : ¬ (0 : Int) < (l.length : Int) := by omega
    have HE : Hid (endsB l x = false) := by
      show _ = _
      rw [List.eq_nil_of_length_eq_zero h0]; rfl
    clear h0
    go_enter Try.func95, Try.ntmps95
    go_wp2
    go_ret
    exact ⟨by rw [HE.out]; rfl, rfl⟩
  · obtain ⟨m, hm⟩ : ∃ m, l.length = m + 1 := ⟨l.length - 1, by omega⟩
    obtain ⟨b, off, rfl, hc⟩ := HR.out.nat (k := m) (by omega)
    have HE : Hid (endsB l x = (((l[m]'(by omega) : Nat) : Int) == (x : Int))) := by
      show _ = _
      unfold endsB
      rw [List.getLast?_eq_getElem?, show l.length - 1 = m by omega, List.getElem?_eq_getElem (show m < l.length by omega)]
      by_cases q : l[m]'(by omega) = x
      · simp [q]
      · simp [q]; omega
    rw [hm]
    rw [hm] at hl
    generalize l[m]'(by omega) = y at *
    have hp : (0 : Int) < ((m : Int) + 1) := by omega
    have hwm : IntKind.i64.wrap ((m : Int) + 1 - 1) = (m : Int) := by rw [IntKind.wrap_i64]; omega
    have HM := Lib.hid hm
    clear hm h0
    go_enter Try.func95, Try.ntmps95
    go_wp2
    go_ret
    exact ⟨by rw [HE.out]; rfl, rfl⟩

end Go.Proofs.Ytafldjbmheopjaa
