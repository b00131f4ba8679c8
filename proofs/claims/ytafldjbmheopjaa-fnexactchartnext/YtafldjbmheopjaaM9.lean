/- What spec.CfgTrim has in memory. -/
import Derived.Test.YtafldjbmheopjaaM8
namespace Go.Proofs.Ytafldjbmheopjaa
open Go.RowKit
set_option linter.unusedVariables false

/-- Flags in memory. -/
structure FS (W : World) (fb : Nat) (N : List Bool) (w : World) : Prop where
  o : Own w fb 4 (bools N)
  b : Below W.heap.size W w
  g : W.heap.size ≤ fb
theorem FS.keep {W w w' : World} {fb : Nat} {N : List Bool} (h : FS W fb N w) (hb : Below w.heap.size w w') : FS W fb N w' := ⟨h.o.keep hb, h.b.trans (hb.mono h.b.size), h.g⟩
theorem FS.flag {W w : World} {fb : Nat} {N : List Bool} (h : FS W fb N w) (i : Nat) : FS W fb (N.set i true) (w.setCell ⟨fb, i, none⟩ (.bool true)) := ⟨h.o.putFlag i true, h.b.setCell h.g _, h.g⟩
theorem FS.read {W w : World} {fb : Nat} {N : List Bool} (h : FS W fb N w) : readN fb N.length w = N := by
  unfold readN
  apply List.ext_getElem (by simp)
  intro i h1 h2
  simp only [List.getElem_map, List.getElem_range]
  rw [h.o.cell]
  simp [bools, h2]

/-- Whatever is flagged is needed. -/
structure Snd (n : Nat) (qs : List Pd) (N : List Bool) : Prop where
  l : N.length = n
  z : fl N 0 = true
  s : ∀ h, 0 ≤ h → fl N h = true → Need qs h
theorem Snd.start {n : Nat} {qs : List Pd} (hn : 1 ≤ n) : Snd n qs ((List.replicate n false).set 0 true) := by
  have h := NI.start (n := n) (qs := qs) hn
  exact ⟨h.l, h.z, h.s⟩
theorem Snd.add {n y : Nat} {qs : List Pd} {N : List Bool} (h : Snd n qs N) {p : Pd} {s : Sy} (hp : p ∈ qs) (h0 : 0 ≤ p.head) (hf : fl N p.head = true) (hs : s ∈ p.body) (hy : s.head = y) (hyn : y < n) : Snd n qs (N.set y true) := by
  have hl : y < N.length := by rw [h.l]; exact hyn
  refine ⟨by simpa using h.l, fl_up hl h.z, fun u hu0 hu => ?_⟩
  rw [fl_set hl] at hu
  split at hu
  · have : u = s.head := by omega
    rw [this]
    exact Need.step p s hp (h.s _ h0 hf) hs (by omega)
  · exact h.s u hu0 hu

theorem grown_own {w w' : World} {base : Nat} {e e' : TypeId} {size size' : Nat} {v v' : Value} {n n' : Nat} {xs xs' : List Value} (hg : w.grownBy w' v.ownBlock) (h : w.ownsRow base e size v n xs) (h' : w.ownsRow base e' size' v' n' xs') (he : e ≠ e') : w'.ownsRow base e' size' v' n' xs' := by
  have hne := own_ne h' h (fun h => he h.symm)
  rcases h' with ⟨hl, ⟨rfl, rfl⟩ | ⟨g, cap, cur, rfl, h1, h2, h3⟩⟩
  · exact ⟨hl, .inl ⟨rfl, rfl⟩⟩
  · exact ⟨hl, .inr ⟨g, cap, cur, rfl, h1, (hg.block g (Array.getElem?_eq_some_iff.1 h2).1 (fun e => hne g rfl e.symm)).trans h2, h3⟩⟩

/-- One more production is put behind the others. -/
theorem OG.push {w w' : World} {base B cap cap' : Nat} {A A' : Option Addr} {zs : List Pv} {x : Pv} (h : OG w base A cap zs) (hon : w.ownsRow B 68 3 x.sl x.p.body.length (symCells x.p.body)) (hB : base ≤ B)
    (hlt : ∀ i (hi : i < zs.length) b, zs[i].sl.ownBlock = some b → b < B) (hg : w.grownBy w' (Value.slice A zs.length cap).ownBlock)
    (ho' : w'.ownsRow base 57 2 (.slice A' (zs.length + 1) cap') (zs.length + 1) (pvCells zs ++ pvCells [x])) : OG w' base A' cap' (zs ++ [x]) := by
  refine ⟨?_, fun i hi => ?_, fun i j hi hj hij b => ?_⟩
  · rw [pvCells_append]
    simpa using ho'
  · by_cases h1 : i < zs.length
    · rw [List.getElem_append_left h1]
      exact grown_own hg h.o (h.d i h1) (by decide)
    · have : i = zs.length := by simp at hi; omega
      subst this
      simp only [List.getElem_concat_length]
      exact grown_own hg h.o (own_base hon hB) (by decide)
  · by_cases h1 : i < zs.length
    · rw [List.getElem_append_left h1]
      by_cases h2 : j < zs.length
      · rw [List.getElem_append_left h2]
        exact h.ap i j h1 h2 hij b
      · have : j = zs.length := by simp at hj; omega
        subst this
        simp only [List.getElem_concat_length]
        intro e1 e2
        have := hlt i h1 b e1
        have := (hon.lt b e2).1
        omega
    · have : i = zs.length := by simp at hi; omega
      subst this
      simp only [List.getElem_concat_length]
      have h2 : j < zs.length := by simp at hj; omega
      rw [List.getElem_append_left h2]
      intro e1 e2
      have := hlt j h2 b e2
      have := (hon.lt b e1).1
      omega

/-- A value with a row of productions of its own, while it grows. -/
structure QS (W : World) (ob : Nat) (n : Int) (A : Option Addr) (cap : Nat) (zs : List Pv) (w : World) : Prop where
  g : OG w W.heap.size A cap zs
  o : Own w ob 33 [.int .i64 n, .slice A zs.length cap]
  b : Below W.heap.size W w
  ge : W.heap.size ≤ ob
theorem QS.keep {W w w' : World} {ob : Nat} {n : Int} {A : Option Addr} {cap : Nat} {zs : List Pv} (h : QS W ob n A cap zs w) (hb : Below w.heap.size w w') : QS W ob n A cap zs w' :=
  ⟨h.g.keep hb, h.o.keep hb, h.b.trans (hb.mono h.b.size), h.ge⟩
theorem QS.alloc {W w : World} {ob : Nat} {n : Int} {A : Option Addr} {cap : Nat} {zs : List Pv} (h : QS W ob n A cap zs w) (o : Obj) : QS W ob n A cap zs (w.alloc o) := h.keep (below_box _)
theorem QS.drew {W w : World} {ob : Nat} {n : Int} {A : Option Addr} {cap : Nat} {zs : List Pv} (h : QS W ob n A cap zs w) : QS W ob n A cap zs w.drew := h.keep (Below.refl _ _).drew
theorem QS.cell {W w : World} {ob : Nat} {n : Int} {A : Option Addr} {cap : Nat} {zs : List Pv} (h : QS W ob n A cap zs w) : w.cell? ⟨ob, 1, none⟩ = some (.slice A zs.length cap) := by rw [h.o.cell]; rfl
theorem QS.ltB {W w : World} {ob : Nat} {n : Int} {A : Option Addr} {cap : Nat} {zs : List Pv} (h : QS W ob n A cap zs w) : ∀ i (hi : i < zs.length) b, zs[i].sl.ownBlock = some b → b < w.heap.size := fun i hi b e => ((h.g.d i hi).lt b e).2

/-- One more, and the value says so. -/
theorem QS.push {W w w' : World} {ob B : Nat} {n : Int} {A A' : Option Addr} {cap cap' : Nat} {zs : List Pv} {x : Pv} (h : QS W ob n A cap zs w) (hon : w.ownsRow B 68 3 x.sl x.p.body.length (symCells x.p.body)) (hB : W.heap.size ≤ B)
    (hlt : ∀ i (hi : i < zs.length) b, zs[i].sl.ownBlock = some b → b < B) (hg : w.grownBy w' (Value.slice A zs.length cap).ownBlock)
    (ho' : w'.ownsRow W.heap.size 57 2 (.slice A' (zs.length + 1) cap') (zs.length + 1) (pvCells zs ++ pvCells [x])) :
    (∃ v, w'.cell? ⟨ob, 1, none⟩ = some v) ∧ w'.frozen? ⟨ob, 1, none⟩ = false ∧ QS W ob n A' cap' (zs ++ [x]) (w'.setCell ⟨ob, 1, none⟩ (.slice A' (zs.length + 1) cap')) := by
  have o1 : Own w' ob 33 [.int .i64 n, .slice A zs.length cap] := by
    have hne := own_ne_own h.g.o h.o (by decide)
    exact (hg.block ob h.o.lt (fun e => hne ob e.symm rfl)).trans h.o
  have hb' : Below W.heap.size W w' := h.b.grown hg h.b.size (fun k hk => (h.g.o.lt k hk).1)
  refine ⟨⟨_, by rw [o1.cell]; rfl⟩, o1.frozen 1, ⟨(h.g.push hon hB hlt hg ho').far o1 (by decide) (by decide) _, ?_, hb'.setCell h.ge _, h.ge⟩⟩
  have := o1.set_ 1 (.slice A' (zs.length + 1) cap')
  simpa using this

theorem step_own_at {P : Program} (w : World) {ops : Array Oper} {o : Oper} {a : Act} {K : Act → World → Prop} {Q : Exit → Act → World → Prop} {E : Prop} (hgd : o.guard = none) (s x : Operand) (t : TypeId)
    (ho : o.op = .call { callee := .builtin .append, args := #[s, x], argTypes := #[t, t] })
    (base : Nat) (e : TypeId) (i : TypeInfo) (z : Value) (size bytes : Nat) (ht : P.underlying t = some (.slice e)) (hi : P.info? e = some i) (hz : i.zero = some z)
    (hsize : i.size = size) (hby : i.bytes = bytes) (hzs : z.cells.size = size) (hsz : 0 < size)
    (v : Value) (n : Nat) (xs : List Value) (hs : a.eval s = v) (hown : w.ownsRow base e size v n xs)
    (ad : Addr) (m c : Nat) (news : List Value) (hx : a.eval x = .slice (some ad) m c) (hl : news.length = m * size) (hnews : ∀ j u, news[j]? = some u → w.cell? (ad.add j) = some u) (h1 : ∀ u ∈ news, u.oneCell' = true)
    (h63 : n + m ≤ maxLen) (hbytes : (n + m) * bytes ≤ 140737488355328) (hbase : base ≤ w.heap.size)
    (h : ∀ v' w', w'.ownsRow base e size v' (n + m) (xs ++ news) → w.grownBy w' v.ownBlock → (v'.ownBlock = v.ownBlock ∨ v'.ownBlock = some w.heap.size) → K (a.put o.dst v') w') :
    if Region.wanted o (yielded ops a.tmps) = true then Oper.wp P o a w K Q else E := by
  have hw : Region.wanted o (yielded ops a.tmps) = true := by simp [Region.wanted, hgd]
  rw [if_pos hw]
  obtain ⟨v', w', hr, h2, h3, h4, h5⟩ := run_append_own_at (P := P) w base t o.type e i z size bytes ht hi hz hsize hby hzs hsz _ n xs hown ad m c news hl hnews h1 h63 hbytes hbase
  unfold Oper.wp execOp
  simp only [ho, resolve, invoke, builtin, Sem.run_bind, Sem.run_pure, Result.andThen_ok, List.map_toArray, List.map_cons, List.map_nil, hs, hx, hr]
  exact h v' w' h2 h3 h5

end Go.Proofs.Ytafldjbmheopjaa
