/- The program's tree: growTrie. -/
import Derived.Test.YtcanhkngikeeiaaV6
namespace Go.Proofs.Ytcanhkngikeeiaa
open Go.RowKit
set_option linter.unusedVariables false

theorem step_own_at {P : Program} (w : World) {ops : Array Oper} {o : Oper} {a : Act} {K : Act → World → Prop} {Q : Exit → Act → World → Prop} {E : Prop} (hgd : o.guard = none) (s x : Operand) (t : TypeId)
    (ho : o.op = .call { callee := .builtin .append, args := #[s, x], argTypes := #[t, t] })
    (base : Nat) (e : TypeId) (i : TypeInfo) (z : Value) (size bytes : Nat) (ht : P.underlying t = some (.slice e)) (hi : P.info? e = some i) (hz : i.zero = some z)
    (hsize : i.size = size) (hby : i.bytes = bytes) (hzs : z.cells.size = size) (hsz : 0 < size)
    (v : Value) (n : Nat) (xs : List Value) (hs : a.eval s = v) (hown : w.ownsRow base e size v n xs)
    (ad : Addr) (m c : Nat) (news : List Value) (hx : a.eval x = .slice (some ad) m c) (hl : news.length = m * size) (hnews : ∀ j u, news[j]? = some u → w.cell? (ad.add j) = some u) (h1 : ∀ u ∈ news, u.oneCell' = true)
    (h63 : n + m ≤ maxLen) (hbytes : (n + m) * bytes ≤ 140737488355328) (hbase : base ≤ w.heap.size)
    (h : ∀ v' w', w'.ownsRow base e size v' (n + m) (xs ++ news) → w.grownBy w' v.ownBlock → (v'.ownBlock = v.ownBlock ∨ v'.ownBlock = some w.heap.size) → K (a.put o.dst v') w') :
    if Region.wanted o (yielded ops a.tmps) = true then Oper.wp P o a w K Q else E := by
  have hw : Region.wanted o (yielded ops a.tmps) = true := by simp [Region.wanted, hgd]
  rw [if_pos hw]
  obtain ⟨v', w', hr, h2, h3, h4, h5⟩ := run_append_own_at (P := P) w base t o.type e i z size bytes ht hi hz hsize hby hzs hsz _ n xs hown ad m c news hl hnews h1 h63 hbytes hbase
  unfold Oper.wp execOp
  simp only [ho, resolve, invoke, builtin, Sem.run_bind, Sem.run_pure, Result.andThen_ok, List.map_toArray, List.map_cons, List.map_nil, hs, hx, hr]
  exact h v' w' h2 h3 h5

theorem take_while {α : Type} (p : α → Bool) : ∀ l : List α, l.takeWhile p = l.take (l.takeWhile p).length
  | [] => rfl
  | x :: l => by
    rw [List.takeWhile_cons]
    cases p x
    · rfl
    · simp only [if_true, List.length_cons, List.take_succ_cons]
      rw [← take_while p l]
theorem drop_while {α : Type} (p : α → Bool) : ∀ l : List α, l.dropWhile p = l.drop (l.takeWhile p).length
  | [] => rfl
  | x :: l => by
    rw [List.takeWhile_cons, List.dropWhile_cons]
    cases p x
    · rfl
    · simp only [if_true, List.length_cons, List.drop_succ_cons]
      exact drop_while p l

theorem groups_len (dep : Nat) : ∀ (n : Nat) (l : List PP), (groups dep n l).length ≤ n
  | 0, l => by simp [groups]
  | n + 1, [] => by simp [groups]
  | n + 1, x :: l => by
    unfold groups
    have := groups_len dep n ((x :: l).dropWhile (fun y => byAt dep y == byAt dep x))
    simp only [List.length_cons]
    omega

/-- Whether the first of some pieces ends at a depth. -/
def headB (dep : Nat) : List PP → Bool
  | [] => false
  | x :: _ => endsB dep x
theorem headB_no {dep : Nat} {l : List PP} (h : headB dep l = false) : l.takeWhile (endsB dep) = [] ∧ l.dropWhile (endsB dep) = l := by
  cases l with
  | nil => exact ⟨rfl, rfl⟩
  | cons x l => have h' : endsB dep x = false := h; rw [List.takeWhile_cons, List.dropWhile_cons, h']; simp
theorem headB_yes {dep : Nat} {l : List PP} (h : headB dep l = true) : ∃ x r, l = x :: r ∧ endsB dep x = true := by
  cases l with
  | nil => cases h
  | cons x r => exact ⟨x, r, rfl, h⟩

/-- What growTrie leaves. -/
def GrowPostI (base : Nat) (T : List Node) (ns : List Node) (v : Value) (val : Nat → Value) (w : World) (e : Ending) (w' : World) : Prop :=
  ∃ A cap val' xs', e = .returned (.slice A (ns ++ T).length cap) ∧ Fo base (.slice A (ns ++ T).length cap) (ns ++ T) val' xs' w' ∧ Fr (Foot v ns.length val) (Foot (.slice A (ns ++ T).length cap) (ns ++ T).length val') w w'

/-- The pieces that are sorted: few, short. -/
structure Few (ss : List ByteArray) (en : Int) (P : List PP) : Prop where
  s : Srt ss en P
  n : P.length ≤ 40
  z : ∀ x ∈ P, x.1.size ≤ 6

theorem nextI_nil {ss : List ByteArray} {en : Int} {P : List PP} (hP : Few ss en P) {t : ByteArray} (ht : 6 ≤ t.size) : nextI (t.size, P.filter (preB t)) = [] := by
  unfold nextI
  simp only
  rw [(while_filter _ _ (ends_first hP.s t)).2]
  have : (P.filter (preB t)).filter (fun x => !endsB t.size x) = [] := by
    rw [List.filter_eq_nil_iff]
    intro x hx
    rw [List.mem_filter] at hx
    have h1 := hP.z x hx.1
    have h2 := ((pre_iff t x).1 hx.2).length_le
    rw [tl_len] at h2
    simp at h2
    unfold endsB
    simp
    omega
  rw [this]
  cases (P.filter (preB t)).length <;> rfl

/-- The induction's hypothesis. -/
def GrowsI (P : List PP) (f : Nat) : Prop := ∀ (t : ByteArray) (last : Int) (ns : List Node) (A : Option Addr) (cap : Nat) (val : Nat → Value) (xs : List Value) (base : Nat) (PA : Option Addr) (pc : Nat) (w : World), PRow w PA (P.filter (preB t)) → (∀ p, PA = some p → p.block < base) →
  (P.filter (preB t)).length ≤ pc → pc ≤ maxLen → Fo base (.slice A ns.length cap) ns val xs w → base ≤ w.heap.size → 6 ≤ t.size + f → t.size ≤ 6 → ns.length + (tree idsI nextI f ns.length last (t.size, P.filter (preB t))).length ≤ 1000 →
  Calls Try.prog 63 #[.slice A ns.length cap, .int .i64 last, .slice PA (P.filter (preB t)).length pc, .int .i64 t.size] w (GrowPostI base (tree idsI nextI f ns.length last (t.size, P.filter (preB t))) ns (.slice A ns.length cap) val w)

set_option maxRecDepth 100000 in
set_option maxHeartbeats 8000000 in
theorem growI_step {ss : List ByteArray} {en : Int} {P : List PP} (hP : Few ss en P) (f : Nat) (IH : ∀ g, g + 1 = f → GrowsI P g) : GrowsI P f := by
  intro t last ns A cap val xs base PA pc w hr ha hpc hpm hF hbase hf ht hN
  obtain ⟨i0, hi0, hz0, hz1, hz2⟩ := info_parts info46
  have HI := Lib.hid (And.intro hi0 (And.intro hz0 (And.intro hz1 hz2)))
  clear hi0 hz0 hz1 hz2
  obtain ⟨j0, hi0, hz0, hz1, hz2⟩ := info_parts info3
  have HJ := Lib.hid (And.intro hi0 (And.intro hz0 (And.intro hz1 hz2)))
  clear hi0 hz0 hz1 hz2
  have HPF := Lib.hid hP
  have HIH := Lib.hid IH
  have hnil : f = 0 → nextI (t.size, P.filter (preB t)) = [] := fun h => nextI_nil hP (by omega)
  have hT := tree_up idsI nextI f ns.length last (t.size, P.filter (preB t)) hnil
  have HT := Lib.hid hT
  rw [hT] at hN
  simp only [List.length_cons] at hN
  have HN := Lib.hid hN
  have HNIL := Lib.hid hnil
  have hnl : ns.length ≤ 1000 := by omega
  obtain ⟨ps, hps⟩ : ∃ ps, ps = P.filter (preB t) := ⟨_, rfl⟩
  rw [← hps] at hr hpc ⊢
  have hpl : ps.length ≤ 40 := by rw [hps]; have := List.length_filter_le (preB t) P; have := hP.n; omega
  have HPS := Lib.hid hps
  have HR := Lib.hid hr
  have HA := Lib.hid ha
  have HF := Lib.hid hF
  clear hr ha hF IH hT hN hnil hP hps
  unfold maxLen at hpm
  obtain ⟨dep, hdep⟩ : ∃ dep, dep = t.size := ⟨_, rfl⟩
  have hd6 : dep ≤ 6 := by omega
  rw [← hdep] at HT HN HNIL ⊢
  have HDEP := Lib.hid hdep
  clear hdep
  go_enter Try.func63, Try.ntmps63
  go_wp2_with (at_builtin; refine wpList_append_own_at _ rfl _ _ 41 rfl base 46 i0 (.agg #[.int .i64 0, .slice none 0 0, .slice none 0 0]) 3 56 Try.underlying41 HI.out.1 HI.out.2.1 HI.out.2.2.1 HI.out.2.2.2 rfl (by decide) _ _ _ rfl ((HF.out.alloc _).alloc _).row ⟨w.heap.size + 1, 0, none⟩ 1 1 [.int .i64 last, .slice none 0 0, .slice none 0 0] rfl rfl ?c1 ?c2 ?c3 ?c4 ?c5 ?_)
  case c1 => (have := cell_three_new (w.alloc (.cells #[.int .i64 dep] 3)) 46 (.int .i64 last) (.slice none 0 0) (.slice none 0 0); rw [World.size_alloc] at this; exact this)
  case c2 => (intro u hu; simp at hu; rcases hu with rfl | rfl <;> rfl)
  case c3 => unfold maxLen; omega
  case c4 => omega
  case c5 => (simp; omega)
  intro v' w4 hown' hgrow _ hblk
  obtain ⟨G4, c4, rfl⟩ := own_some hown' (by omega)
  have HF4 := ((HF.out.alloc (.cells #[.int .i64 dep] 3)).alloc (.cells #[.int .i64 last, .slice none 0 0, .slice none 0 0] 46)).push (js := []) hgrow hown' (by simpa [ints] using World.ownsRow_nil _ _ _ _) (fun q k hq hk e => by cases e) (.inl rfl)
  have hFr1 : Fr (Foot (.slice A ns.length cap) ns.length val) (Foot (.slice A ns.length cap) ns.length val) w ((w.alloc (.cells #[.int .i64 dep] 3)).alloc (.cells #[.int .i64 last, .slice none 0 0, .slice none 0 0] 46)) :=
    Fr.of_below _ ((below_box (w := w) (.cells #[.int .i64 dep] 3)).alloc (by simp) _)
  have hblk' : (Value.slice (some ⟨G4, 0, none⟩) (ns.length + 1) c4).ownBlock = (Value.slice A ns.length cap).ownBlock ∨ (Value.slice (some ⟨G4, 0, none⟩) (ns.length + 1) c4).ownBlock = some ((w.alloc (.cells #[.int .i64 dep] 3)).alloc (.cells #[.int .i64 last, .slice none 0 0, .slice none 0 0] 46)).heap.size := by rw [World.size_alloc, World.size_alloc]; exact hblk
  have hFr4 := hFr1.push (b := last) (js := []) (jv := .slice none 0 0) (v' := .slice (some ⟨G4, 0, none⟩) (ns.length + 1) c4) hgrow hblk' (fun k hk => by cases hk)
  have hlen1 : (ns ++ [(⟨last, [], []⟩ : Node)]).length = ns.length + 1 := by simp
  rw [hlen1] at hFr4
  obtain ⟨val4, hval4⟩ : ∃ v, v = (upd (upd val (2 * ns.length) (.slice none 0 0)) (2 * ns.length + 1) (.slice none 0 0)) := ⟨_, rfl⟩
  have hnotD : ¬ Foot (.slice (some ⟨G4, 0, none⟩) (ns.length + 1) c4) (ns.length + 1) val4 w.heap.size := by
    intro hq
    rw [← hlen1, hval4] at hq
    rcases foot_push (js := []) hblk' hq with q | q | q
    · have := (HF.out.foot q).2; omega
    · cases q
    · simp only [World.size_alloc] at q; omega
  rw [← hval4] at HF4 hFr4
  have hs4 : w.heap.size + 2 ≤ w4.heap.size := by have := hgrow.size; simpa using this
  have hbox : Own w4 w.heap.size 3 [.int .i64 dep] := own_touch' ((Own.new w 3 #[.int .i64 dep]).alloc (.cells #[.int .i64 last, .slice none 0 0, .slice none 0 0] 46)) hgrow (fun e => by have := (HF.out.row.lt _ e).2; omega)
  have HBOX := Lib.hid hbox
  have HND := Lib.hid hnotD
  have HFR := Lib.hid hFr4
  have hbw4 : Below base w w4 := hFr4.below (fun k hk => (HF.out.foot hk).1) hbase
  have HBW := Lib.hid hbw4
  have hR4 : PRow w4 PA ps := HR.out.fr hFr4 (fun p hp hq => by have h1 := (HF.out.foot hq).1; have h2 := HA.out p hp; omega)
  have hfb4 : ∀ k, Foot (.slice (some ⟨G4, 0, none⟩) (ns.length + 1) c4) (ns.length + 1) val4 k → base ≤ k := fun k hk => (HF4.foot (by rw [hlen1]; exact hk)).1
  have HFB := Lib.hid hfb4
  have HS0 := Lib.hid (And.intro hR4 HF4)
  clear hown' hgrow hblk hblk' hFr1 hFr4 hval4 hnotD hbox hbw4 hR4 HF4 hlen1 hfb4
  go_wp2
  go_loopg [2] (ps.length) (fun gk x wr => ∃ (j n pc' : Nat) (PA' : Option Addr) (vl : Nat → Value) (ys : List Value), j + n = ps.length ∧ n ≤ gk ∧ x = .slice PA' n pc' ∧ n ≤ pc' ∧ pc' ≤ pc ∧
    Aside (PRow wr PA' (ps.drop j) ∧ (∀ p, PA' = some p → p.block < base) ∧ Fo base (.slice (some ⟨G4, 0, none⟩) (ns.length + 1) c4) (ns ++ [⟨last, [], (ps.take j).map (·.2)⟩]) vl ys wr ∧ Fr (Foot (.slice (some ⟨G4, 0, none⟩) (ns.length + 1) c4) (ns.length + 1) val4) (Foot (.slice (some ⟨G4, 0, none⟩) (ns.length + 1) c4) (ns.length + 1) vl) w4 wr ∧
      ps.takeWhile (endsB dep) = ps.take j ++ (ps.drop j).takeWhile (endsB dep) ∧ ps.dropWhile (endsB dep) = (ps.drop j).dropWhile (endsB dep)))
  case atStart => exact ⟨0, ps.length, pc, PA, val4, _, by omega, Nat.le_refl _, rfl, hpc, Nat.le_refl _, ⟨HS0.out.1, HA.out, HS0.out.2, Fr.refl _ _, by simp, by simp⟩⟩
  case round =>
    obtain ⟨j, n, pc', PA', vl, ys, hjn, hngk, rfl, hnpc, hpcc, S1⟩ := hrel
    have HJN := Lib.hid hjn
    have hjn1 : j + n ≤ ps.length := by omega
    have hjn2 : ps.length ≤ j + n := by omega
    clear hjn
    have cD : wr.cell? ⟨w.heap.size, 0, none⟩ = some (.int .i64 dep) := by rw [(S1.out.2.2.2.1.own HBOX.out HND.out).cell]; rfl
    go_upto_region 3 with fail
    go_cut [30] (fun c wx => c = .bool (headB dep (ps.drop j)) ∧ ∃ q, wx = wr.drewN q)
    case first =>
      cases hd : ps.drop j with
      | nil =>
        have hn0 : n = 0 := by have := congrArg List.length hd; simp at this; omega
        subst hn0
        have HDX := Lib.hid hd
        clear hd
        go_wp2_with fail
        go_quiet (fail)
        go_wp2_with fail
        go_meet
        exact ⟨by rw [HDX.out]; rfl, _, rfl⟩
      | cons x l =>
        have hn1 : 0 < n := by have := congrArg List.length hd; simp at this; omega
        have hn1' : (0 : Int) < (n : Int) := by omega
        have hp := S1.out.1
        rw [hd] at hp
        obtain ⟨pb, po, rfl, c0, _⟩ := hp.at_ (i := 0) (by simp)
        simp only [List.getElem_cons_zero, Nat.zero_mul, Nat.add_zero] at c0
        have HH := Lib.hid (show headB dep (x :: l) = ((x.1.size : Int) == (dep : Int)) by
          unfold headB endsB
          by_cases e : x.1.size = dep
          · simp [e]
          · simp [e]; omega)
        have HDX := Lib.hid hd
        clear hp hd
        go_wp2_with fail
        go_quiet (fail)
        go_wp2_with fail
        go_meet
        exact ⟨by rw [HDX.out, HH.out], _, rfl⟩
    obtain ⟨rfl, q, rfl⟩ := hcut
    have S2 : Aside (PRow (wr.drewN q) PA' (ps.drop j) ∧ (∀ p, PA' = some p → p.block < base) ∧ Fo base (.slice (some ⟨G4, 0, none⟩) (ns.length + 1) c4) (ns ++ [⟨last, [], (ps.take j).map (·.2)⟩]) vl ys (wr.drewN q) ∧ Fr (Foot (.slice (some ⟨G4, 0, none⟩) (ns.length + 1) c4) (ns.length + 1) val4) (Foot (.slice (some ⟨G4, 0, none⟩) (ns.length + 1) c4) (ns.length + 1) vl) w4 (wr.drewN q) ∧
      ps.takeWhile (endsB dep) = ps.take j ++ (ps.drop j).takeWhile (endsB dep) ∧ ps.dropWhile (endsB dep) = (ps.drop j).dropWhile (endsB dep)) :=
      ⟨S1.out.1.keep (below_drewN (Below.refl _ _) q), S1.out.2.1, S1.out.2.2.1.keep (below_drewN (Below.refl _ _) q), S1.out.2.2.2.1.trans (Fr.of_below _ (below_drewN (Below.refl _ _) q)), S1.out.2.2.2.2⟩
    have cD2 : (wr.drewN q).cell? ⟨w.heap.size, 0, none⟩ = some (.int .i64 dep) := cD
    clear S1 cD
    generalize wr.drewN q = wq at S2 cD2 ⊢
    cases hB : headB dep (ps.drop j)
    · -- the loop ends
      have hno := headB_no hB
      have hw1 : ps.takeWhile (endsB dep) = ps.take j := by rw [S2.out.2.2.2.2.1, hno.1]; simp
      have hw2 : ps.dropWhile (endsB dep) = ps.drop j := by rw [S2.out.2.2.2.2.2, hno.2]
      obtain ⟨tr, htr⟩ : ∃ tr, tr = tree idsI nextI (f - 1) := ⟨_, rfl⟩
      obtain ⟨nx, hnx⟩ : ∃ nx, nx = nextI (dep, ps) := ⟨_, rfl⟩
      obtain ⟨js, hjs⟩ : ∃ js, js = idsI (dep, ps) := ⟨_, rfl⟩
      have hjs2 : js = (ps.take j).map (·.2) := by rw [hjs]; unfold idsI; simp only; rw [hw1]
      have hnx2 : nx = groups dep ps.length (ps.drop j) := by rw [hnx]; unfold nextI; simp only; rw [hw2]
      have hsz : ∀ x ∈ ps.drop j, dep < x.1.size ∧ x.1.size ≤ 6 := by
        intro x hx
        rw [← hw2, HPS.out, HDEP.out, (while_filter _ _ (ends_first HPF.out.s t)).2, List.mem_filter, List.mem_filter] at hx
        obtain ⟨c1, r1, ex⟩ := split_at hx.1.2 (by simpa using hx.2)
        have h1 := HPF.out.z x hx.1.1
        have h2 := congrArg List.length ex
        rw [tl_len] at h2
        simp at h2
        have := HDEP.out
        omega
      have hkid : ∀ (k : Nat) (h : k < nx.length), ∃ t' : ByteArray, nx[k].2.1 = t'.size ∧ nx[k].2.2 = P.filter (preB t') := by
        intro k hk
        obtain ⟨lb, g1, g2, e1, _, e3⟩ := same_next HPF.out.s t
        rw [← HDEP.out, ← HPS.out, ← hnx] at e1
        subst e1
        simp only [List.length_map] at hk
        simp only [List.getElem_map]
        exact ⟨g2 lb[k], (e3 _ (List.getElem_mem hk)).1, (e3 _ (List.getElem_mem hk)).2⟩
      have hfo0 : upTo tr ns last js nx 0 = ns ++ [⟨last, [], (ps.take j).map (·.2)⟩] := by rw [upTo_zero, hjs2]
      have hlen0 : ns.length + 1 = (upTo tr ns last js nx 0).length := by rw [hfo0]; simp
      have HX := Lib.hid (And.intro htr (And.intro hnx (And.intro hjs (And.intro hkid hlen0))))
      have HST : Hid (PRow wq PA' (ps.drop j) ∧ (∀ p, PA' = some p → p.block < base) ∧ groups dep ps.length (ps.drop j) = nx.drop 0 ∧ (ps.drop j).length ≤ ps.length ∧ (∀ x ∈ ps.drop j, dep < x.1.size ∧ x.1.size ≤ 6) ∧ Fo base (.slice (some ⟨G4, 0, none⟩) (upTo tr ns last js nx 0).length c4) (upTo tr ns last js nx 0) vl ys wq ∧ Fr (Foot (.slice (some ⟨G4, 0, none⟩) (ns.length + 1) c4) (ns.length + 1) val4) (Foot (.slice (some ⟨G4, 0, none⟩) (upTo tr ns last js nx 0).length c4) (upTo tr ns last js nx 0).length vl) w4 wq) := by
        refine ⟨S2.out.1, S2.out.2.1, by rw [← hnx2]; rfl, by simp, hsz, ?_, ?_⟩
        · rw [← hlen0, hfo0]; exact S2.out.2.2.1
        · rw [← hlen0]; exact S2.out.2.2.2.1
      have hdl : (ps.drop j).length = n := by simp; omega
      have HDL := Lib.hid hdl
      clear hno hw1 hw2 htr hnx hjs hjs2 hnx2 hsz hkid hfo0 hlen0 S2 hB hdl cD2
      go_wp2
      go_loopg [0, 2, 10, 11] (ps.length) (fun gk x y z u wr => ∃ (k fu pc' G cp : Nat) (PA' : Option Addr) (R : List PP) (vl : Nat → Value) (ys : List Value), k ≤ nx.length ∧ R.length ≤ gk ∧ R.length ≤ pc' ∧ pc' ≤ pc ∧ R.length ≤ 40 ∧ x = .slice (some ⟨G, 0, none⟩) (upTo tr ns last js nx k).length cp ∧ y = .slice PA' R.length pc' ∧
        Aside (PRow wr PA' R ∧ (∀ p, PA' = some p → p.block < base) ∧ groups dep fu R = nx.drop k ∧ R.length ≤ fu ∧ (∀ x ∈ R, dep < x.1.size ∧ x.1.size ≤ 6) ∧ Fo base (.slice (some ⟨G, 0, none⟩) (upTo tr ns last js nx k).length cp) (upTo tr ns last js nx k) vl ys wr ∧ Fr (Foot (.slice (some ⟨G4, 0, none⟩) (ns.length + 1) c4) (ns.length + 1) val4) (Foot (.slice (some ⟨G, 0, none⟩) (upTo tr ns last js nx k).length cp) (upTo tr ns last js nx k).length vl) w4 wr))
      case atStart => exact ⟨0, ps.length, pc', G4, c4, PA', ps.drop j, vl, ys, Nat.zero_le _, by simp, by rw [HDL.out]; omega, hpcc, by rw [HDL.out]; omega, by rw [← HX.out.2.2.2.2], by rw [HDL.out], HST.out⟩
      case round =>
        clear HST HDL
        obtain ⟨k, fu, pc', G, cp, PA', R, vl, ys, hk, hRg, hRpc, hpcc, hR40, rfl, rfl, S2⟩ := hrel
        obtain ⟨U, hU⟩ : ∃ U, U = upTo tr ns last js nx k := ⟨_, rfl⟩
        rw [← hU] at S2 ⊢
        have HU := Lib.hid hU
        clear hU
        by_cases hR : 0 < R.length
        · have hR' : (0 : Int) < (R.length : Int) := by omega
          obtain ⟨x, l, hxl⟩ : ∃ x l, R = x :: l := by
            cases R with
            | nil => simp at hR
            | cons x l => exact ⟨x, l, rfl⟩
          obtain ⟨pb, po, rfl, c0, _⟩ := S2.out.1.at_ (i := 0) hR
          have hx0 : R[0] = x := by subst hxl; rfl
          rw [hx0] at c0
          simp only [Nat.zero_mul, Nat.add_zero] at c0
          obtain ⟨hs1, hs2⟩ := S2.out.2.2.2.2.1 x (by rw [hxl]; simp)
          have cD : wr.cell? ⟨w.heap.size, 0, none⟩ = some (.int .i64 dep) := by rw [(S2.out.2.2.2.2.2.2.own HBOX.out HND.out).cell]; rfl
          have hDl : w.heap.size < wr.heap.size := cell_lt cD
          have hpbl := cell_lt c0
          have hpbb := S2.out.2.1 ⟨pb, po, none⟩ rfl
          simp only at hpbl hpbb
          have hdz : (dep : Int) < (x.1.size : Int) := by omega
          have HXL := Lib.hid hxl
          clear hxl hx0
          go_upto_region 7 with fail
          refine wp_region_held_drew (S := fun X => X.cell? ⟨pb, po, none⟩ = some (.string x.1) ∧ X.cell? ⟨w.heap.size, 0, none⟩ = some (.int .i64 dep)) (by kernel_rfl) ?_ (fun hHeld => ?_)
          · exact ⟨c0, cD⟩
          (first
            | (refine held_take (i := 0) (v := ?_) rfl (by kernel_rfl) (by kernel_rfl) (by kernel_rfl) (fun _ _ _ h => h) (Or.inl ⟨rfl, ?_⟩) (by assumption) ?_; rotate_left; (intro X hSw; (try dsimp only at hSw); (go_simp <;> with_reducible rfl)))
            | (refine held_take (i := 0) (v := undef) rfl (by kernel_rfl) (by kernel_rfl) (by kernel_rfl) (fun _ _ _ h => h) (Or.inr ⟨rfl, rfl⟩) (by assumption) ?_)); simp only [Act.put, List.setIfInBounds_toArray, List.set_cons_zero, List.set_cons_succ]
          (first
            | (refine held_take (i := 1) (v := ?_) rfl (by kernel_rfl) (by kernel_rfl) (by kernel_rfl) (fun _ _ _ h => h) (Or.inl ⟨rfl, ?_⟩) (by assumption) ?_; rotate_left; (intro X hSw; (try dsimp only at hSw); (go_simp <;> with_reducible rfl)))
            | (refine held_take (i := 1) (v := undef) rfl (by kernel_rfl) (by kernel_rfl) (by kernel_rfl) (fun _ _ _ h => h) (Or.inr ⟨rfl, rfl⟩) (by assumption) ?_)); simp only [Act.put, List.setIfInBounds_toArray, List.set_cons_zero, List.set_cons_succ]
          (first
            | (refine held_take (i := 2) (v := ?_) rfl (by kernel_rfl) (by kernel_rfl) (by kernel_rfl) (fun _ _ _ h => h) (Or.inl ⟨rfl, ?_⟩) (by assumption) ?_; rotate_left; (intro X hSw; (try dsimp only at hSw); (go_simp <;> with_reducible rfl)))
            | (refine held_take (i := 2) (v := undef) rfl (by kernel_rfl) (by kernel_rfl) (by kernel_rfl) (fun _ _ _ h => h) (Or.inr ⟨rfl, rfl⟩) (by assumption) ?_)); simp only [Act.put, List.setIfInBounds_toArray, List.set_cons_zero, List.set_cons_succ]
          (first
            | (refine held_take (i := 3) (v := ?_) rfl (by kernel_rfl) (by kernel_rfl) (by kernel_rfl) (fun _ _ _ h => h) (Or.inl ⟨rfl, ?_⟩) (by assumption) ?_; rotate_left; (intro X hSw; (try dsimp only at hSw); (go_simp <;> with_reducible rfl)))
            | (refine held_take (i := 3) (v := undef) rfl (by kernel_rfl) (by kernel_rfl) (by kernel_rfl) (fun _ _ _ h => h) (Or.inr ⟨rfl, rfl⟩) (by assumption) ?_)); simp only [Act.put, List.setIfInBounds_toArray, List.set_cons_zero, List.set_cons_succ]
          (first
            | (refine held_take (i := 4) (v := ?_) rfl (by kernel_rfl) (by kernel_rfl) (by kernel_rfl) (fun _ _ _ h => h) (Or.inl ⟨rfl, ?_⟩) (by assumption) ?_; rotate_left; (intro X hSw; (try dsimp only at hSw); (go_simp <;> with_reducible rfl)))
            | (refine held_take (i := 4) (v := undef) rfl (by kernel_rfl) (by kernel_rfl) (by kernel_rfl) (fun _ _ _ h => h) (Or.inr ⟨rfl, rfl⟩) (by assumption) ?_)); simp only [Act.put, List.setIfInBounds_toArray, List.set_cons_zero, List.set_cons_succ]
          (first
            | (refine held_take (i := 5) (v := ?_) rfl (by kernel_rfl) (by kernel_rfl) (by kernel_rfl) (fun _ _ _ h => h) (Or.inl ⟨rfl, ?_⟩) (by assumption) ?_; rotate_left; (intro X hSw; (try dsimp only at hSw); (go_simp <;> with_reducible rfl)))
            | (refine held_take (i := 5) (v := undef) rfl (by kernel_rfl) (by kernel_rfl) (by kernel_rfl) (fun _ _ _ h => h) (Or.inr ⟨rfl, rfl⟩) (by assumption) ?_)); simp only [Act.put, List.setIfInBounds_toArray, List.set_cons_zero, List.set_cons_succ]
          refine wpAnyH_ready (rs := [6]) (by kernel_rfl) (by simp) ?_
          refine AllReadyH.cons rfl (fun K hK => ?_) AllReadyH.nil
          go_simp
          refine hK.out _ _ ?_ (fun hHeld => ?_)
          · exact ⟨cell_alloc c0 _, cell_alloc cD _⟩
          clear hK K
          refine wpAnyH_ready (rs := [7]) (by kernel_rfl) (by simp) ?_
          refine AllReadyH.cons rfl (fun K hK => ?_) AllReadyH.nil
          go_simp
          refine hK.out _ _ ?_ (fun hHeld => ?_)
          · exact ⟨cell_alloc c0 _, cell_alloc cD _⟩
          clear hK K
          refine wpAnyH_done (by kernel_rfl) ?_ _
          obtain ⟨cb, hcb⟩ : ∃ cb : UInt8, cb = x.1[dep] := ⟨_, rfl⟩
          rw [← hcb]
          have hcd : x.1.data.getD dep 0 = cb := by rw [hcb]; simp [Array.getD, hs1, ByteArray.getElem_eq_getElem_data]
          have hfun : (fun y => byAt dep y == byAt dep x) = (fun y => !otherB dep cb y) := by
            funext y
            unfold byAt otherB
            rw [hcd]
            by_cases q : y.1.data.getD dep 0 = cb
            · simp [q]
            · have q2 : (y.1.data.getD dep 0).toNat ≠ cb.toNat := fun h => q (UInt8.toNat.inj h)
              simp only [ne_eq, q, not_false_eq_true, decide_true, Bool.not_true, beq_eq_false_iff_ne]
              omega
          have hby : byAt dep x = (cb.toNat : Int) := by unfold byAt; rw [hcd]
          obtain ⟨sz, hszd⟩ : ∃ sz, sz = (R.takeWhile (fun y => !otherB dep cb y)).length := ⟨_, rfl⟩
          have hsz1 : 1 ≤ sz := by
            rw [hszd, HXL.out, List.takeWhile_cons]
            have : otherB dep cb x = false := by unfold otherB; rw [hcd]; simp
            rw [this]; simp
          have hszR : sz ≤ R.length := by rw [hszd]; exact (List.takeWhile_prefix _).length_le
          obtain ⟨fu', rfl⟩ : ∃ q, fu = q + 1 := ⟨fu - 1, by have := S2.out.2.2.2.1; omega⟩
          have hgr : (byAt dep x, dep + 1, R.take sz) :: groups dep fu' (R.drop sz) = nx.drop k := by
            have h1 := S2.out.2.2.1
            rw [← h1]
            have e1 : R.takeWhile (fun y => byAt dep y == byAt dep x) = R.take sz := by rw [hfun, hszd]; exact take_while _ _
            have e2 : R.dropWhile (fun y => byAt dep y == byAt dep x) = R.drop sz := by rw [hfun, hszd]; exact drop_while _ _
            rw [← e1, ← e2, HXL.out]
            rfl
          have hkn : k < nx.length := by
            rcases Nat.lt_or_ge k nx.length with h | h
            · exact h
            · rw [List.drop_eq_nil_of_le h] at hgr; cases hgr
          have hnxk : nx[k] = (byAt dep x, dep + 1, R.take sz) ∧ nx.drop (k + 1) = groups dep fu' (R.drop sz) := by
            rw [List.drop_eq_getElem_cons hkn] at hgr
            injection hgr with h1 h2
            exact ⟨h1.symm, h2.symm⟩
          obtain ⟨t', ht1, ht2⟩ := HX.out.2.2.2.1 k hkn
          rw [hnxk.1] at ht1 ht2
          simp only at ht1 ht2
          have hch := upTo_child (tr := tr) (ns := ns) (b := last) (js := js) hkn
          rw [← HU.out, hnxk.1, hby] at hch
          have hN2 := HN.out
          rw [← HPS.out, ← HX.out.1, ← HX.out.2.1] at hN2
          obtain ⟨T, hT⟩ : ∃ T, T = tr U.length (cb.toNat : Int) (dep + 1, R.take sz) := ⟨_, rfl⟩
          have hroom : U.length + T.length ≤ 1000 := by rw [hT]; simp only at hch; omega
          have hUn : ns.length < U.length := by rw [HU.out, upTo_length]; omega
          obtain ⟨g, hg⟩ : ∃ g, g + 1 = f := by
            cases f with
            | zero =>
              have h1 := HNIL.out rfl
              rw [← HPS.out, ← HX.out.2.1] at h1
              rw [h1] at hkn
              simp at hkn
            | succ g => exact ⟨g, rfl⟩
          have htr2 : tree idsI nextI g = tr := by rw [HX.out.1, ← hg]; rfl
          have htl : (R.take sz).length = sz := by simp; omega
          have hd1 : t'.size = dep + 1 := ht1.symm
          have HCALL0 : Hid (∀ (U1 : List Node) (vl1 : Nat → Value) (ys1 : List Value) X, U1.length = U.length → PRow X (some ⟨pb, po, none⟩) (R.take sz) → Fo base (.slice (some ⟨G, 0, none⟩) U1.length cp) U1 vl1 ys1 X → base ≤ X.heap.size →
              Calls Try.prog 63 #[.slice (some ⟨G, 0, none⟩) U.length cp, .int .i64 cb.toNat, .slice (some ⟨pb, po, none⟩) sz pc', .int .i64 ((dep : Int) + 1)] X (GrowPostI base T U1 (.slice (some ⟨G, 0, none⟩) U1.length cp) vl1 X)) := Lib.hid (fun U1 vl1 ys1 X e1 h1 h2 h3 => by
            have := HIH.out g hg t' (cb.toNat : Int) U1 (some ⟨G, 0, none⟩) cp vl1 ys1 base (some ⟨pb, po, none⟩) pc' X (by rw [← ht2]; exact h1) (fun p hp => by injection hp with hp; subst hp; exact hpbb) (by rw [← ht2, htl]; omega) (by unfold maxLen; omega) h2 h3 (by have := HDEP.out; omega) (by omega) (by
              rw [htr2, ← ht2, hd1, e1, ← hT]; exact hroom)
            rw [htr2, ← ht2, hd1, e1, ← hT, htl] at this
            rw [e1]
            have e2 : ((dep + 1 : Nat) : Int) = (dep : Int) + 1 := by omega
            rw [e2] at this
            exact this)
          have b6 : Below wr.heap.size wr (wr.alloc (.cells #[.int .u8 cb.toNat] 5)).drew := (below_box _).drew
          have cN : (wr.alloc (.cells #[.int .u8 cb.toNat] 5)).drew.cell? ⟨wr.heap.size, 0, none⟩ = some (.int .u8 cb.toNat) := by
            show (wr.alloc (.cells #[.int .u8 cb.toNat] 5)).cell? _ = _
            rw [(Own.new wr 5 #[.int .u8 cb.toNat]).cell]; rfl
          have hF6 := S2.out.2.2.2.2.2.1.keep b6
          have hP6 := S2.out.1.keep b6
          have hFr6 := S2.out.2.2.2.2.2.2.trans (Fr.of_below _ b6)
          have cD6 := cell_keep b6 cD
          have nN : ¬ Foot (.slice (some ⟨G, 0, none⟩) U.length cp) U.length vl wr.heap.size := fun q => by have := (S2.out.2.2.2.2.2.1.foot q).2; omega
          have nD : ¬ Foot (.slice (some ⟨G, 0, none⟩) U.length cp) U.length vl w.heap.size := fun q => HND.out (S2.out.2.2.2.2.2.2.foot _ HBOX.out.lt q)
          have hN6 : wr.heap.size < (wr.alloc (.cells #[.int .u8 cb.toNat] 5)).drew.heap.size := by show _ < (wr.alloc _).heap.size; rw [World.size_alloc]; omega
          have h81 := idx81 w.heap.size wr.heap.size dep cb (some ⟨pb, po, none⟩) pc' R _ cD6 cN hP6 (by omega) (fun y hy => by have := S2.out.2.2.2.2.1 y hy; omega)
          have H81 := Lib.hid h81
          have HS3 := Lib.hid (And.intro hF6 (And.intro hP6 (And.intro hFr6 (And.intro cN cD6))))
          have HNN := Lib.hid (And.intro nN nD)
          have HK2 := Lib.hid (And.intro hnxk.1 (And.intro hnxk.2 (And.intro hby (And.intro hT hszd))))
          have HSZS := Lib.hid (And.intro S2.out.2.2.2.2.1 S2.out.2.2.2.1)
          have HG := Lib.hid hg
          clear hcd hfun hby hszd hgr hnxk ht1 ht2 hch hN2 hT hg htr2 htl hd1 b6 cN hF6 hP6 hFr6 cD6 nN nD h81 S2 c0 cD hcb
          generalize hw6 : (wr.alloc (.cells #[.int .u8 cb.toNat] 5)).drew = w6 at HS3 H81 hN6 ⊢
          obtain ⟨N, hNd⟩ : ∃ N, N = wr.heap.size := ⟨_, rfl⟩
          rw [← hNd] at HNN HS3 H81 hN6 ⊢
          clear hw6 hNd
          go_wp2_with fail
          refine H81.out.mono ?_
          rintro e w7 ⟨r, rfl, hres, hb7⟩
          have HS4 : Hid (Fo base (.slice (some ⟨G, 0, none⟩) U.length cp) U vl ys w7 ∧ PRow w7 (some ⟨pb, po, none⟩) R ∧ Fr (Foot (.slice (some ⟨G4, 0, none⟩) (ns.length + 1) c4) (ns.length + 1) val4) (Foot (.slice (some ⟨G, 0, none⟩) U.length cp) U.length vl) w4 w7 ∧ w7.cell? ⟨N, 0, none⟩ = some (.int .u8 cb.toNat) ∧ w7.cell? ⟨w.heap.size, 0, none⟩ = some (.int .i64 dep)) :=
            ⟨HS3.out.1.keep hb7, HS3.out.2.1.keep hb7, HS3.out.2.2.1.trans (Fr.of_below _ hb7), cell_keep hb7 HS3.out.2.2.2.1, cell_keep hb7 HS3.out.2.2.2.2⟩
          have hN7 : N < w7.heap.size := by have := hb7.size; omega
          have HRES := Lib.hid hres
          clear H81 HS3 hres hb7
          go_upto_if 61 with fail
          go_cut [11] (fun c wx => c = .int .i64 sz ∧ w7 = wx)
          case first =>
            rcases HRES.out with ⟨rfl, hall⟩ | ⟨j', rfl, hj', hj''⟩
            · have hsz3 : Hid (sz = R.length) := by
                show _ = _
                rw [HK2.out.2.2.2.2]
                congr 1
                rw [(while_filter _ R (List.pairwise_iff_forall_sublist.2 (fun {a b} hab _ => by
                  have ha : a ∈ R := hab.subset (by simp)
                  rw [hall a ha]; rfl))).1]
                exact List.filter_eq_self.2 (fun y hy => by rw [hall y hy]; rfl)
              have HALL := Lib.hid hall
              clear hall
              go_wp2_with fail
              go_meet
              exact ⟨by rw [hsz3.out], rfl⟩
            · have hj0 : ¬ (j' : Int) < 0 := by omega
              have HJJ := Lib.hid hj''
              clear hj''
              go_wp2_with fail
              go_meet
              exact ⟨by rw [HK2.out.2.2.2.2, HJJ.out], rfl⟩
          obtain ⟨rfl, rfl⟩ := hcut
          clear HRES
          have hq : 2 * ns.length < 2 * U.length := by omega
          have hF7 := HS4.out.1
          have o1 := hF7.own (2 * ns.length) hq
          have hkl2 : (lst U (2 * ns.length)).length ≤ 40 := by
            rw [HU.out, upTo_kids, forest_kids]
            have h1 := groups_len dep ps.length (ps.dropWhile (endsB dep))
            have h2 : nx.length ≤ ps.length := by rw [HX.out.2.1]; exact h1
            simp
            omega
          obtain ⟨KA, kc, ek⟩ := own_form o1
          have hG7 := hF7.row.lt G rfl
          have cK : w7.cell? ⟨G, ns.length * 3 + 1, none⟩ = some (.slice KA (lst U (2 * ns.length)).length kc) := by
            rw [← ek, hF7.row.cellAt _ (by omega)]; exact (hF7.cel ns.length hUn).2.1
          have hap := hF7.rowApt hq (k := G) rfl
          rw [ek] at o1 hap
          have HRF := Lib.hid (And.intro hF7.row (And.intro o1 hap))
          obtain ⟨m, hm⟩ : ∃ m, m = (lst U (2 * ns.length)).length := ⟨_, rfl⟩
          rw [← hm] at cK HRF hkl2
          have HM := Lib.hid hm
          have HEK := Lib.hid ek
          have hbs7 : base ≤ w7.heap.size := by omega
          clear hm ek o1 hap hF7
          have hatz : (ns.length : Int) < (U.length : Int) := by omega
          go_wp2_with (at_builtin; refine wpList_append_own_at _ rfl _ _ 26 rfl base 3 j0 (.int .i64 0) 1 8 Try.underlying26 HJ.out.1 HJ.out.2.1 HJ.out.2.2.1 HJ.out.2.2.2 rfl (by decide) _ _ _ rfl (HRF.out.2.1.alloc _) ⟨w7.heap.size, 0, none⟩ 1 1 [.int .i64 U.length] rfl rfl (cell_one_new _ _ _) ?d2 ?d3 ?d4 ?d5 ?_)
          case d2 => (intro u hu; simp at hu; subst hu; rfl)
          case d3 => unfold maxLen; omega
          case d4 => omega
          case d5 => (simp; omega)
          intro v' w8 hown' hgrow _ hblk
          obtain ⟨K8, k8, rfl⟩ := own_form hown'
          have hrow8 := (HRF.out.1.alloc (.cells #[.int .i64 U.length] 3)).kept hgrow (.inr (fun e => HRF.out.2.2 e.symm))
          obtain ⟨v8, c8⟩ : ∃ x, w8.cell? ⟨G, ns.length * 3 + 1, none⟩ = some x := ⟨_, (hrow8.cellAt (ns.length * 3 + 1) (by omega)).trans (List.getElem?_eq_getElem (by rw [hrow8.1]; omega))⟩
          have f8 := hrow8.frozenAt (ns.length * 3 + 1)
          have h8 := (hrow8.lt G rfl).2
          have e1 : 2 * ns.length / 2 * 3 + 1 + 2 * ns.length % 2 = ns.length * 3 + 1 := by omega
          have hg2 : (w7.alloc (.cells #[.int .i64 U.length] 3)).grownBy w8 (vl (2 * ns.length)).ownBlock := by rw [HEK.out, ← HM.out]; exact hgrow
          have hb2 : (Value.slice K8 (m + 1) k8).ownBlock = (vl (2 * ns.length)).ownBlock ∨ (Value.slice K8 (m + 1) k8).ownBlock = some (w7.heap.size + 1) := by rw [HEK.out, ← HM.out]; exact hblk
          have p1 := (HS4.out.1.alloc (.cells #[.int .i64 U.length] 3)).put (x := (U.length : Int)) hq hg2 (by rw [← HM.out]; exact hown') (by rw [World.size_alloc]; exact hb2)
          rw [e1] at p1
          have p2 := (Fr.of_below (Foot (.slice (some ⟨G, 0, none⟩) U.length cp) U.length vl) (below_box (w := w7) (.cells #[.int .i64 U.length] 3))).put (x := (U.length : Int)) (c := ns.length * 3 + 1) (v' := .slice K8 (m + 1) k8) hq hg2 (by rw [World.size_alloc]; exact hb2)
          obtain ⟨U1, hU1⟩ : ∃ U1, U1 = moreAt U (2 * ns.length) U.length := ⟨_, rfl⟩
          have hU1l : U1.length = U.length := by rw [hU1, moreAt_length]
          rw [← hU1] at p1 p2
          rw [hU1l] at p2
          have HU1 := Lib.hid (And.intro hU1 hU1l)
          have HFO9 := Lib.hid p1
          have HFR9 := Lib.hid (HS4.out.2.2.1.trans p2)
          have HPR9 : Hid (PRow (w8.setCell ⟨G, ns.length * 3 + 1, none⟩ (.slice K8 (m + 1) k8)) (some ⟨pb, po, none⟩) R) := HS4.out.2.1.fr p2 (fun p hp q => by
            injection hp with hp
            subst hp
            have := (HS4.out.1.foot q).1
            simp only at this
            omega)
          have HC9 : Hid ((w8.setCell ⟨G, ns.length * 3 + 1, none⟩ (.slice K8 (m + 1) k8)).cell? ⟨N, 0, none⟩ = some (.int .u8 cb.toNat) ∧ (w8.setCell ⟨G, ns.length * 3 + 1, none⟩ (.slice K8 (m + 1) k8)).cell? ⟨w.heap.size, 0, none⟩ = some (.int .i64 dep)) := ⟨p2.cell HS4.out.2.2.2.1 HNN.out.1, p2.cell HS4.out.2.2.2.2 HNN.out.2⟩
          have hD7 := cell_lt HS4.out.2.2.2.2
          simp only at hD7
          have HN9 : Hid (¬ Foot (.slice (some ⟨G, 0, none⟩) U.length cp) U.length (upd vl (2 * ns.length) (.slice K8 (m + 1) k8)) N ∧ ¬ Foot (.slice (some ⟨G, 0, none⟩) U.length cp) U.length (upd vl (2 * ns.length) (.slice K8 (m + 1) k8)) w.heap.size) := ⟨fun q => HNN.out.1 (p2.foot _ hN7 q), fun q => HNN.out.2 (p2.foot _ hD7 q)⟩
          have hs9 := p2.size
          clear hown' hgrow hblk hrow8 e1 hg2 hb2 p1 p2 hU1 hU1l HRF HS4
          go_wp2_with fail
          have hbs9 : base ≤ (w8.setCell ⟨G, ns.length * 3 + 1, none⟩ (.slice K8 (m + 1) k8)).heap.size := by omega
          generalize upd vl (2 * ns.length) (.slice K8 (m + 1) k8) = vl9 at HFO9 HFR9 HN9
          generalize hy9 : ys.set (ns.length * 3 + 1) (.slice K8 (m + 1) k8) = ys9 at HFO9
          generalize w8.setCell ⟨G, ns.length * 3 + 1, none⟩ (.slice K8 (m + 1) k8) = w9 at HFO9 HFR9 HPR9 HC9 hs9 hbs9 ⊢
          clear hy9 c8 f8 h8 cK HEK
          have HCALL : Hid (∀ X, PRow X (some ⟨pb, po, none⟩) R → Fo base (.slice (some ⟨G, 0, none⟩) U.length cp) U1 vl9 ys9 X → base ≤ X.heap.size →
              Calls Try.prog 63 #[.slice (some ⟨G, 0, none⟩) U.length cp, .int .i64 cb.toNat, .slice (some ⟨pb, po, none⟩) sz pc', .int .i64 ((dep : Int) + 1)] X (GrowPostI base T U1 (.slice (some ⟨G, 0, none⟩) U.length cp) vl9 X)) := Lib.hid (fun X h1 h2 h3 => by
            have := HCALL0.out U1 vl9 ys9 X HU1.out.2 (h1.take sz) (by rw [HU1.out.2]; exact h2) h3
            rw [HU1.out.2] at this
            exact this)
          have hwd : IntKind.i64.wrap ((dep : Int) + 1) = (dep : Int) + 1 := IntWalk.i64_in _ (by omega)
          have hwc := hwrap cb
          have hsz0 : (0 : Int) ≤ (sz : Int) := by omega
          have hszp : (sz : Int) ≤ (pc' : Int) := by omega
          clear HCALL0
          refine wp_region_held_drew (S := fun X => X.cell? ⟨N, 0, none⟩ = some (.int .u8 cb.toNat) ∧ X.cell? ⟨w.heap.size, 0, none⟩ = some (.int .i64 dep)) (by kernel_rfl) ?_ (fun hHeld => ?_)
          · exact HC9.out
          (first
            | (refine held_take (i := 0) (v := ?_) rfl (by kernel_rfl) (by kernel_rfl) (by kernel_rfl) (fun _ _ _ h => h) (Or.inl ⟨rfl, ?_⟩) (by assumption) ?_; rotate_left; (intro X hSw; (try dsimp only at hSw); (go_simp <;> with_reducible rfl)))
            | (refine held_take (i := 0) (v := undef) rfl (by kernel_rfl) (by kernel_rfl) (by kernel_rfl) (fun _ _ _ h => h) (Or.inr ⟨rfl, rfl⟩) (by assumption) ?_)); simp only [Act.put, List.setIfInBounds_toArray, List.set_cons_zero, List.set_cons_succ]
          (first
            | (refine held_take (i := 1) (v := ?_) rfl (by kernel_rfl) (by kernel_rfl) (by kernel_rfl) (fun _ _ _ h => h) (Or.inl ⟨rfl, ?_⟩) (by assumption) ?_; rotate_left; (intro X hSw; (try dsimp only at hSw); (go_simp <;> with_reducible rfl)))
            | (refine held_take (i := 1) (v := undef) rfl (by kernel_rfl) (by kernel_rfl) (by kernel_rfl) (fun _ _ _ h => h) (Or.inr ⟨rfl, rfl⟩) (by assumption) ?_)); simp only [Act.put, List.setIfInBounds_toArray, List.set_cons_zero, List.set_cons_succ]
          (first
            | (refine held_take (i := 2) (v := ?_) rfl (by kernel_rfl) (by kernel_rfl) (by kernel_rfl) (fun _ _ _ h => h) (Or.inl ⟨rfl, ?_⟩) (by assumption) ?_; rotate_left; (intro X hSw; (try dsimp only at hSw); (go_simp <;> with_reducible rfl)))
            | (refine held_take (i := 2) (v := undef) rfl (by kernel_rfl) (by kernel_rfl) (by kernel_rfl) (fun _ _ _ h => h) (Or.inr ⟨rfl, rfl⟩) (by assumption) ?_)); simp only [Act.put, List.setIfInBounds_toArray, List.set_cons_zero, List.set_cons_succ]
          (first
            | (refine held_take (i := 3) (v := ?_) rfl (by kernel_rfl) (by kernel_rfl) (by kernel_rfl) (fun _ _ _ h => h) (Or.inl ⟨rfl, ?_⟩) (by assumption) ?_; rotate_left; (intro X hSw; (try dsimp only at hSw); (go_simp <;> with_reducible rfl)))
            | (refine held_take (i := 3) (v := undef) rfl (by kernel_rfl) (by kernel_rfl) (by kernel_rfl) (fun _ _ _ h => h) (Or.inr ⟨rfl, rfl⟩) (by assumption) ?_)); simp only [Act.put, List.setIfInBounds_toArray, List.set_cons_zero, List.set_cons_succ]
          (first
            | (refine held_take (i := 4) (v := ?_) rfl (by kernel_rfl) (by kernel_rfl) (by kernel_rfl) (fun _ _ _ h => h) (Or.inl ⟨rfl, ?_⟩) (by assumption) ?_; rotate_left; (intro X hSw; (try dsimp only at hSw); (go_simp <;> with_reducible rfl)))
            | (refine held_take (i := 4) (v := undef) rfl (by kernel_rfl) (by kernel_rfl) (by kernel_rfl) (fun _ _ _ h => h) (Or.inr ⟨rfl, rfl⟩) (by assumption) ?_)); simp only [Act.put, List.setIfInBounds_toArray, List.set_cons_zero, List.set_cons_succ]
          (first
            | (refine held_take (i := 5) (v := ?_) rfl (by kernel_rfl) (by kernel_rfl) (by kernel_rfl) (fun _ _ _ h => h) (Or.inl ⟨rfl, ?_⟩) (by assumption) ?_; rotate_left; (intro X hSw; (try dsimp only at hSw); (go_simp <;> with_reducible rfl)))
            | (refine held_take (i := 5) (v := undef) rfl (by kernel_rfl) (by kernel_rfl) (by kernel_rfl) (fun _ _ _ h => h) (Or.inr ⟨rfl, rfl⟩) (by assumption) ?_)); simp only [Act.put, List.setIfInBounds_toArray, List.set_cons_zero, List.set_cons_succ]
          (first
            | (refine held_take (i := 6) (v := ?_) rfl (by kernel_rfl) (by kernel_rfl) (by kernel_rfl) (fun _ _ _ h => h) (Or.inl ⟨rfl, ?_⟩) (by assumption) ?_; rotate_left; (intro X hSw; (try dsimp only at hSw); (go_simp <;> with_reducible rfl)))
            | (refine held_take (i := 6) (v := undef) rfl (by kernel_rfl) (by kernel_rfl) (by kernel_rfl) (fun _ _ _ h => h) (Or.inr ⟨rfl, rfl⟩) (by assumption) ?_)); simp only [Act.put, List.setIfInBounds_toArray, List.set_cons_zero, List.set_cons_succ]
          (first
            | (refine held_take (i := 7) (v := ?_) rfl (by kernel_rfl) (by kernel_rfl) (by kernel_rfl) (fun _ _ _ h => h) (Or.inl ⟨rfl, ?_⟩) (by assumption) ?_; rotate_left; (intro X hSw; (try dsimp only at hSw); (go_simp <;> with_reducible rfl)))
            | (refine held_take (i := 7) (v := undef) rfl (by kernel_rfl) (by kernel_rfl) (by kernel_rfl) (fun _ _ _ h => h) (Or.inr ⟨rfl, rfl⟩) (by assumption) ?_)); simp only [Act.put, List.setIfInBounds_toArray, List.set_cons_zero, List.set_cons_succ]
          refine wpAnyH_ready (rs := [8]) (by kernel_rfl) (by simp) ?_
          refine AllReadyH.cons rfl (fun K hK => ?_) AllReadyH.nil
          go_simp
          go_wp2_with (go_at_call 63; refine (HCALL.out _ (HPR9.out.keep (Below.refl _ _).drew) HFO9.out.drew hbs9).mono ?_; rintro e w10 ⟨A10, c10, vl10, ys10, rfl, hF10, hFr10⟩)
          refine hK.out _ _ ?_ (fun hHeld => ?_)
          · exact ⟨hFr10.cell HC9.out.1 (by rw [HU1.out.2]; exact HN9.out.1), hFr10.cell HC9.out.2 (by rw [HU1.out.2]; exact HN9.out.2)⟩
          clear hK K
          (first
            | (refine held_take (i := 9) (v := ?_) rfl (by kernel_rfl) (by kernel_rfl) (by kernel_rfl) (fun _ _ _ h => h) (Or.inl ⟨rfl, ?_⟩) (by assumption) ?_; rotate_left; (intro X hSw; (try dsimp only at hSw); (go_simp <;> with_reducible rfl)))
            | (refine held_take (i := 9) (v := undef) rfl (by kernel_rfl) (by kernel_rfl) (by kernel_rfl) (fun _ _ _ h => h) (Or.inr ⟨rfl, rfl⟩) (by assumption) ?_)); simp only [Act.put, List.setIfInBounds_toArray, List.set_cons_zero]
          refine wpAnyH_done (by kernel_rfl) ?_ _
          have hUTl : (U1 ++ T).length = U.length + T.length := by rw [List.length_append, HU1.out.2]
          obtain ⟨G10, c11, e10⟩ := own_some hF10.row (by omega)
          injection e10 with e10 _ e11
          subst e10 e11
          have hfit : U1 ++ T = upTo tr ns last js nx (k + 1) := by
            have := upTo_step' (tr := tr) (ns := ns) (b := last) (js := js) hkn
            rw [HK2.out.1, HK2.out.2.2.1, ← HU.out, ← HU1.out.1] at this
            rw [HK2.out.2.2.2.1]; exact this
          have hFrA : Fr (Foot (.slice (some ⟨G4, 0, none⟩) (ns.length + 1) c4) (ns.length + 1) val4) (Foot (.slice (some ⟨G10, 0, none⟩) (U1 ++ T).length c10) (U1 ++ T).length vl10) w4 w10 := by
            have h1 := HFR9.out
            have h2 := hFr10
            rw [HU1.out.2] at h2
            exact (h1.trans (Fr.of_below _ (Below.refl _ _).drew)).trans h2
          have hPRA : PRow w10 (some ⟨pb, po, none⟩) R := (HPR9.out.keep (Below.refl _ _).drew).fr hFr10 (fun p hp q => by
            injection hp with hp
            subst hp
            rw [HU1.out.2] at q
            rcases q with q | ⟨q1, q2, q3⟩
            · have := (HFO9.out.foot (.inl q)).1; simp only at this; omega
            · have := (HFO9.out.foot (.inr ⟨q1, by rw [HU1.out.2]; exact q2, q3⟩)).1; simp only at this; omega)
          have HEND : Hid (PRow w10 (some ⟨pb, po + sz * 2, none⟩) (R.drop sz) ∧ groups dep fu' (R.drop sz) = nx.drop (k + 1) ∧ (R.drop sz).length ≤ fu' ∧ (∀ x ∈ R.drop sz, dep < x.1.size ∧ x.1.size ≤ 6) ∧ Fo base (.slice (some ⟨G10, 0, none⟩) (upTo tr ns last js nx (k + 1)).length c10) (upTo tr ns last js nx (k + 1)) vl10 ys10 w10 ∧ Fr (Foot (.slice (some ⟨G4, 0, none⟩) (ns.length + 1) c4) (ns.length + 1) val4) (Foot (.slice (some ⟨G10, 0, none⟩) (upTo tr ns last js nx (k + 1)).length c10) (upTo tr ns last js nx (k + 1)).length vl10) w4 w10) := by
            refine ⟨hPRA.drop sz, HK2.out.2.1.symm, by have := HSZS.out.2; simp; omega, fun y hy => HSZS.out.1 y (List.mem_of_mem_drop hy), ?_, ?_⟩
            · rw [← hfit]; exact hF10
            · rw [← hfit]; exact hFrA
          have HLEN : Hid (U1.length + T.length = (upTo tr ns last js nx (k + 1)).length) := by show _ = _; rw [← hfit, List.length_append]
          have HDR : Hid ((R.drop sz).length = R.length - sz) := by show _ = _; simp
          have HUTL := Lib.hid hUTl
          clear hF10 hFr10 hFrA hPRA hfit hUTl HFO9 HFR9 HPR9 HC9 HN9 HCALL
          by_cases hc1 : pc' = sz
          · have hRs : R.length = sz := by omega
            have HRS := Lib.hid hRs
            subst hc1
            clear hRs
            have hRs1 : R.length ≤ pc' := by omega
            have hRs2 : pc' ≤ R.length := by omega
            have hd0 : Hid (R.drop pc' = []) := List.drop_eq_nil_of_le hRs1
            go_wp2
            go_roundg 0
            case measure => omega
            case rel => exact ⟨k + 1, fu', 0, G10, c10, some ⟨pb, po, none⟩, R.drop pc', vl10, ys10, by omega, by rw [hd0.out]; exact Nat.le_refl _, by rw [hd0.out]; exact Nat.le_refl _, Nat.zero_le _, by rw [hd0.out]; exact Nat.zero_le _, by rw [HLEN.out], by rw [hd0.out]; rfl, ⟨.inl hd0.out, fun p hp => by injection hp with hp; subst hp; exact hpbb, HEND.out.2⟩⟩
          · have hc2 : sz < pc' := by omega
            go_wp2
            go_roundg (R.length - sz)
            case measure => omega
            case rel => exact ⟨k + 1, fu', pc' - sz, G10, c10, some ⟨pb, po + sz * 2, none⟩, R.drop sz, vl10, ys10, by omega, by rw [HDR.out]; exact Nat.le_refl _, by rw [HDR.out]; omega, by omega, by rw [HDR.out]; omega, by rw [HLEN.out], by rw [HDR.out], ⟨HEND.out.1, fun p hp => by injection hp with hp; subst hp; exact hpbb, HEND.out.2⟩⟩
        · have hR' : ¬ (0 : Int) < (R.length : Int) := by omega
          have hfin : Hid (U = ns ++ tree idsI nextI f ns.length last (dep, ps)) := by
            show _ = _
            have hR0 : R = [] := List.length_eq_zero_iff.1 (by omega)
            have hg := S2.out.2.2.1
            rw [hR0] at hg
            have hg0 : groups dep fu [] = [] := by cases fu <;> rfl
            rw [hg0] at hg
            have hkl : nx.length ≤ k := List.drop_eq_nil_iff.1 hg.symm
            obtain rfl : k = nx.length := by omega
            have hT2 := HT.out
            rw [← HPS.out] at hT2
            rw [HU.out, upTo_all, hT2, ← HX.out.1, ← HX.out.2.1, ← HX.out.2.2.1]
          go_wp2
          go_ret
          refine ⟨some ⟨G, 0, none⟩, cp, vl, ys, ?_, ?_, ?_⟩
          · rw [← hfin.out]; rfl
          · rw [← hfin.out]; exact S2.out.2.2.2.2.2.1
          · rw [← hfin.out]; exact HFR.out.trans S2.out.2.2.2.2.2.2
    · obtain ⟨x, l, hdx, hex⟩ := headB_yes hB
      have hn1 : 0 < n := by have := congrArg List.length hdx; simp at this; omega
      have hn1' : (0 : Int) < (n : Int) := by omega
      have hp := S2.out.1
      rw [hdx] at hp
      obtain ⟨pb, po, rfl, c0, cI⟩ := hp.at_ (i := 0) (by simp)
      simp only [List.getElem_cons_zero, Nat.zero_mul, Nat.add_zero] at c0 cI
      have hFq := S2.out.2.2.1
      have hnn : (ns ++ [(⟨last, [], (ps.take j).map (·.2)⟩ : Node)]).length = ns.length + 1 := by simp
      have hq : 2 * ns.length + 1 < 2 * (ns ++ [(⟨last, [], (ps.take j).map (·.2)⟩ : Node)]).length := by rw [hnn]; omega
      have hat : ns.length < (ns ++ [(⟨last, [], (ps.take j).map (·.2)⟩ : Node)]).length := by rw [hnn]; omega
      have o1 := hFq.own (2 * ns.length + 1) hq
      have hrw : wq.ownsRow base 46 3 (.slice (some ⟨G4, 0, none⟩) (ns.length + 1) c4) (ns.length + 1) ys := by have := hFq.row; rwa [hnn] at this
      have hlj : (lst (ns ++ [(⟨last, [], (ps.take j).map (·.2)⟩ : Node)]) (2 * ns.length + 1)) = (ps.take j).map (·.2) := by rw [lst_ids hat]; simp
      have hll : (lst (ns ++ [(⟨last, [], (ps.take j).map (·.2)⟩ : Node)]) (2 * ns.length + 1)).length ≤ 40 := by rw [hlj]; simp; omega
      obtain ⟨KA, kc, ek⟩ := own_form o1
      have cK : wq.cell? ⟨G4, ns.length * 3 + 2, none⟩ = some (.slice KA (lst (ns ++ [(⟨last, [], (ps.take j).map (·.2)⟩ : Node)]) (2 * ns.length + 1)).length kc) := by
        rw [← ek, hrw.cellAt _ (by omega)]; exact (hFq.cel ns.length hat).2.2
      have hap := hFq.rowApt hq (k := G4) rfl
      rw [ek] at o1 hap
      have hGl := hFq.row.lt G4 rfl
      have hpbb := S2.out.2.1 ⟨pb, po, none⟩ rfl
      simp only at hpbb
      obtain ⟨m, hm⟩ : ∃ m, m = (lst (ns ++ [(⟨last, [], (ps.take j).map (·.2)⟩ : Node)]) (2 * ns.length + 1)).length := ⟨_, rfl⟩
      rw [← hm] at cK o1 hap hll
      have HM := Lib.hid hm
      have HEK := Lib.hid ek
      have HO1 := Lib.hid (And.intro o1 (And.intro hap hrw))
      have HDX := Lib.hid (And.intro hdx hex)
      have HLJ := Lib.hid hlj
      have HNN := Lib.hid (And.intro hnn hq)
      have hbsz : base ≤ wq.heap.size := by omega
      clear hB hdx hp ek hm o1 hap hrw hFq hlj hex hnn hq hat
      have hnz : (ns.length : Int) < (ns.length : Int) + 1 := by omega
      go_wp2_with fail
      refine wp_region_held_drew (S := fun X => X.cell? ⟨pb, po + 1, none⟩ = some (.int .i64 x.2)) (by kernel_rfl) ?_ (fun hHeld => ?_)
      · exact cI
      (first
        | (refine held_take (i := 0) (v := ?_) rfl (by kernel_rfl) (by kernel_rfl) (by kernel_rfl) (fun _ _ _ h => h) (Or.inl ⟨rfl, ?_⟩) (by assumption) ?_; rotate_left; (intro X hSw; (try dsimp only at hSw); (go_simp <;> with_reducible rfl)))
        | (refine held_take (i := 0) (v := undef) rfl (by kernel_rfl) (by kernel_rfl) (by kernel_rfl) (fun _ _ _ h => h) (Or.inr ⟨rfl, rfl⟩) (by assumption) ?_)); simp only [Act.put, List.setIfInBounds_toArray, List.set_cons_zero, List.set_cons_succ]
      (first
        | (refine held_take (i := 1) (v := ?_) rfl (by kernel_rfl) (by kernel_rfl) (by kernel_rfl) (fun _ _ _ h => h) (Or.inl ⟨rfl, ?_⟩) (by assumption) ?_; rotate_left; (intro X hSw; (try dsimp only at hSw); (go_simp <;> with_reducible rfl)))
        | (refine held_take (i := 1) (v := undef) rfl (by kernel_rfl) (by kernel_rfl) (by kernel_rfl) (fun _ _ _ h => h) (Or.inr ⟨rfl, rfl⟩) (by assumption) ?_)); simp only [Act.put, List.setIfInBounds_toArray, List.set_cons_zero, List.set_cons_succ]
      (first
        | (refine held_take (i := 2) (v := ?_) rfl (by kernel_rfl) (by kernel_rfl) (by kernel_rfl) (fun _ _ _ h => h) (Or.inl ⟨rfl, ?_⟩) (by assumption) ?_; rotate_left; (intro X hSw; (try dsimp only at hSw); (go_simp <;> with_reducible rfl)))
        | (refine held_take (i := 2) (v := undef) rfl (by kernel_rfl) (by kernel_rfl) (by kernel_rfl) (fun _ _ _ h => h) (Or.inr ⟨rfl, rfl⟩) (by assumption) ?_)); simp only [Act.put, List.setIfInBounds_toArray, List.set_cons_zero, List.set_cons_succ]
      (first
        | (refine held_take (i := 3) (v := ?_) rfl (by kernel_rfl) (by kernel_rfl) (by kernel_rfl) (fun _ _ _ h => h) (Or.inl ⟨rfl, ?_⟩) (by assumption) ?_; rotate_left; (intro X hSw; (try dsimp only at hSw); (go_simp <;> with_reducible rfl)))
        | (refine held_take (i := 3) (v := undef) rfl (by kernel_rfl) (by kernel_rfl) (by kernel_rfl) (fun _ _ _ h => h) (Or.inr ⟨rfl, rfl⟩) (by assumption) ?_)); simp only [Act.put, List.setIfInBounds_toArray, List.set_cons_zero, List.set_cons_succ]
      (first
        | (refine held_take (i := 4) (v := ?_) rfl (by kernel_rfl) (by kernel_rfl) (by kernel_rfl) (fun _ _ _ h => h) (Or.inl ⟨rfl, ?_⟩) (by assumption) ?_; rotate_left; (intro X hSw; (try dsimp only at hSw); (go_simp <;> with_reducible rfl)))
        | (refine held_take (i := 4) (v := undef) rfl (by kernel_rfl) (by kernel_rfl) (by kernel_rfl) (fun _ _ _ h => h) (Or.inr ⟨rfl, rfl⟩) (by assumption) ?_)); simp only [Act.put, List.setIfInBounds_toArray, List.set_cons_zero, List.set_cons_succ]
      (first
        | (refine held_take (i := 5) (v := ?_) rfl (by kernel_rfl) (by kernel_rfl) (by kernel_rfl) (fun _ _ _ h => h) (Or.inl ⟨rfl, ?_⟩) (by assumption) ?_; rotate_left; (intro X hSw; (try dsimp only at hSw); (go_simp <;> with_reducible rfl)))
        | (refine held_take (i := 5) (v := undef) rfl (by kernel_rfl) (by kernel_rfl) (by kernel_rfl) (fun _ _ _ h => h) (Or.inr ⟨rfl, rfl⟩) (by assumption) ?_)); simp only [Act.put, List.setIfInBounds_toArray, List.set_cons_zero, List.set_cons_succ]
      (first
        | (refine held_take (i := 7) (v := ?_) rfl (by kernel_rfl) (by kernel_rfl) (by kernel_rfl) (fun _ _ _ h => h) (Or.inl ⟨rfl, ?_⟩) (by assumption) ?_; rotate_left; (intro X hSw; (try dsimp only at hSw); (go_simp <;> with_reducible rfl)))
        | (refine held_take (i := 7) (v := undef) rfl (by kernel_rfl) (by kernel_rfl) (by kernel_rfl) (fun _ _ _ h => h) (Or.inr ⟨rfl, rfl⟩) (by assumption) ?_)); simp only [Act.put, List.setIfInBounds_toArray, List.set_cons_zero, List.set_cons_succ]
      (first
        | (refine held_take (i := 8) (v := ?_) rfl (by kernel_rfl) (by kernel_rfl) (by kernel_rfl) (fun _ _ _ h => h) (Or.inl ⟨rfl, ?_⟩) (by assumption) ?_; rotate_left; (intro X hSw; (try dsimp only at hSw); (go_simp <;> with_reducible rfl)))
        | (refine held_take (i := 8) (v := undef) rfl (by kernel_rfl) (by kernel_rfl) (by kernel_rfl) (fun _ _ _ h => h) (Or.inr ⟨rfl, rfl⟩) (by assumption) ?_)); simp only [Act.put, List.setIfInBounds_toArray, List.set_cons_zero, List.set_cons_succ]
      (first
        | (refine held_take (i := 9) (v := ?_) rfl (by kernel_rfl) (by kernel_rfl) (by kernel_rfl) (fun _ _ _ h => h) (Or.inl ⟨rfl, ?_⟩) (by assumption) ?_; rotate_left; (intro X hSw; (try dsimp only at hSw); (go_simp <;> with_reducible rfl)))
        | (refine held_take (i := 9) (v := undef) rfl (by kernel_rfl) (by kernel_rfl) (by kernel_rfl) (fun _ _ _ h => h) (Or.inr ⟨rfl, rfl⟩) (by assumption) ?_)); simp only [Act.put, List.setIfInBounds_toArray, List.set_cons_zero, List.set_cons_succ]
      (first
        | (refine held_take (i := 10) (v := ?_) rfl (by kernel_rfl) (by kernel_rfl) (by kernel_rfl) (fun _ _ _ h => h) (Or.inl ⟨rfl, ?_⟩) (by assumption) ?_; rotate_left; (intro X hSw; (try dsimp only at hSw); (go_simp <;> with_reducible rfl)))
        | (refine held_take (i := 10) (v := undef) rfl (by kernel_rfl) (by kernel_rfl) (by kernel_rfl) (fun _ _ _ h => h) (Or.inr ⟨rfl, rfl⟩) (by assumption) ?_)); simp only [Act.put, List.setIfInBounds_toArray, List.set_cons_zero, List.set_cons_succ]
      refine wpAnyH_ready (rs := [6, 11]) (by kernel_rfl) (by simp) ?_
      refine AllReadyH.cons rfl (fun K hK => ?_) (AllReadyH.cons rfl (fun K hK => ?_) AllReadyH.nil)
      · go_simp
        refine hK.out _ _ ?_ (fun hHeld => ?_)
        · exact cI
        clear hK K
        refine wpAnyH_ready (rs := [11]) (by kernel_rfl) (by simp) ?_
        refine AllReadyH.cons rfl (fun K hK => ?_) AllReadyH.nil
        go_simp
        refine hK.out _ _ ?_ (fun hHeld => ?_)
        · exact cell_alloc cI _
        clear hK K
        refine wpAnyH_ready (rs := [12]) (by kernel_rfl) (by simp) ?_
        refine AllReadyH.cons rfl (fun K hK => ?_) AllReadyH.nil
        refine step_own_at (wq.alloc (.cells #[.int .i64 x.2] 3)).drew rfl _ _ 26 rfl base 3 j0 (.int .i64 0) 1 8 Try.underlying26 HJ.out.1 HJ.out.2.1 HJ.out.2.2.1 HJ.out.2.2.2 rfl (by decide) _ _ _ rfl (HO1.out.1.alloc _).drew ⟨wq.heap.size, 0, none⟩ 1 1 [.int .i64 x.2] rfl rfl (fun j u hj => cell_one_new _ _ _ j u hj) (fun u hu => by simp at hu; subst hu; rfl) (by unfold maxLen; omega) (by omega) (by show base ≤ (wq.alloc _).heap.size; rw [World.size_alloc]; omega) ?_
        intro v' w7 hown' hgrow hblk
        obtain ⟨K7, k7, rfl⟩ := own_form hown'
        have hrow7 := ((HO1.out.2.2.alloc (.cells #[.int .i64 x.2] 3)).drew).kept hgrow (.inr (fun e => HO1.out.2.1 e.symm))
        have c7 : w7.cell? ⟨G4, ns.length * 3 + 2, none⟩ = some (.slice KA m kc) := by
          rw [hrow7.cellAt _ (by omega), ← HO1.out.2.2.cellAt _ (by omega)]; exact cK
        have hb7 : Below base wq w7 := (((Below.refl base wq).alloc hbsz _).drew).grown hgrow (by show base ≤ (wq.alloc _).heap.size; rw [World.size_alloc]; omega) (fun k hk => (HO1.out.1.lt k hk).1)
        have i7 : w7.cell? ⟨pb, po + 1, none⟩ = some (.int .i64 x.2) := (hb7.cell (p := ⟨pb, po + 1, none⟩) hpbb).trans cI
        have f7 := hrow7.frozenAt (ns.length * 3 + 2)
        have h7 := (hrow7.lt G4 rfl).2
        have hg2 : (wq.alloc (.cells #[.int .i64 x.2] 3)).drew.grownBy w7 (vl (2 * ns.length + 1)).ownBlock := by rw [HEK.out, ← HM.out]; exact hgrow
        have hbl2 : (Value.slice K7 (m + 1) k7).ownBlock = (vl (2 * ns.length + 1)).ownBlock ∨ (Value.slice K7 (m + 1) k7).ownBlock = some (wq.alloc (.cells #[.int .i64 x.2] 3)).drew.heap.size := by rw [HEK.out, ← HM.out]; exact hblk
        have e1 : (2 * ns.length + 1) / 2 * 3 + 1 + (2 * ns.length + 1) % 2 = ns.length * 3 + 2 := by omega
        have hFo : Fo base (.slice (some ⟨G4, 0, none⟩) (ns ++ [(⟨last, [], (ps.take j).map (·.2)⟩ : Node)]).length c4) (ns ++ [⟨last, [], (ps.take j).map (·.2)⟩]) vl ys wq := by rw [HNN.out.1]; exact S2.out.2.2.1
        have p1 := ((hFo.alloc (.cells #[.int .i64 x.2] 3)).drew).put (x := x.2) HNN.out.2 hg2 (by rw [← HM.out]; exact hown') hbl2
        have hFr2 : Fr (Foot (.slice (some ⟨G4, 0, none⟩) (ns.length + 1) c4) (ns.length + 1) val4) (Foot (.slice (some ⟨G4, 0, none⟩) (ns ++ [(⟨last, [], (ps.take j).map (·.2)⟩ : Node)]).length c4) (ns ++ [(⟨last, [], (ps.take j).map (·.2)⟩ : Node)]).length vl) w4 wq := by rw [HNN.out.1]; exact S2.out.2.2.2.1
        have p2 := (hFr2.trans (Fr.of_below _ (below_box (.cells #[.int .i64 x.2] 3)).drew)).put (x := x.2) (c := ns.length * 3 + 2) (v' := .slice K7 (m + 1) k7) HNN.out.2 hg2 hbl2
        rw [e1] at p1
        have hmore : moreAt (ns ++ [(⟨last, [], (ps.take j).map (·.2)⟩ : Node)]) (2 * ns.length + 1) x.2 = ns ++ [⟨last, [], (ps.take (j + 1)).map (·.2)⟩] := by
          rw [more_ids]
          have hx : ps.take (j + 1) = ps.take j ++ [x] := by
            have hj : j < ps.length := by omega
            rw [List.take_succ_eq_append_getElem hj]
            have := HDX.out.1
            rw [List.drop_eq_getElem_cons hj] at this
            injection this with this _
            rw [this]
          rw [hx]; simp
        rw [hmore] at p1
        rw [moreAt_length, HNN.out.1] at p2
        rw [HNN.out.1] at p1
        have HP := Lib.hid (And.intro p1 p2)
        clear hown' hgrow hblk hg2 hbl2 hrow7 e1 hFo hFr2 p1 p2 hmore
        have hb8 : Below base wq (w7.setCell ⟨G4, ns.length * 3 + 2, none⟩ (.slice K7 (m + 1) k7)) := hb7.setCell hGl.1 _
        have HB8 := Lib.hid hb8
        clear hb8 hb7
        go_simp
        refine hK.out _ _ ?_ (fun hHeld => ?_)
        · exact i7
        clear hK K
        (first
          | (refine held_take (i := 13) (v := ?_) rfl (by kernel_rfl) (by kernel_rfl) (by kernel_rfl) (fun _ _ _ h => h) (Or.inl ⟨rfl, ?_⟩) (by assumption) ?_; rotate_left; (intro X hSw; (try dsimp only at hSw); (go_simp <;> with_reducible rfl)))
          | (refine held_take (i := 13) (v := undef) rfl (by kernel_rfl) (by kernel_rfl) (by kernel_rfl) (fun _ _ _ h => h) (Or.inr ⟨rfl, rfl⟩) (by assumption) ?_)); simp only [Act.put, List.setIfInBounds_toArray, List.set_cons_zero, List.set_cons_succ]
        (first
          | (refine held_take (i := 14) (v := ?_) rfl (by kernel_rfl) (by kernel_rfl) (by kernel_rfl) (fun _ _ _ h => h) (Or.inl ⟨rfl, ?_⟩) (by assumption) ?_; rotate_left; (intro X hSw; (try dsimp only at hSw); (go_simp <;> with_reducible rfl)))
          | (refine held_take (i := 14) (v := undef) rfl (by kernel_rfl) (by kernel_rfl) (by kernel_rfl) (fun _ _ _ h => h) (Or.inr ⟨rfl, rfl⟩) (by assumption) ?_)); simp only [Act.put, List.setIfInBounds_toArray, List.set_cons_zero, List.set_cons_succ]
        refine wpAnyH_ready (rs := [15]) (by kernel_rfl) (by simp) ?_
        refine AllReadyH.cons rfl (fun K hK => ?_) AllReadyH.nil
        go_simp
        refine hK.out _ _ ?_ (fun hHeld => ?_)
        · exact (HB8.out.cell (p := ⟨pb, po + 1, none⟩) hpbb).trans cI
        clear hK K
        refine wpAnyH_done (by kernel_rfl) ?_ _
        have hP8 : PRow (w7.setCell ⟨G4, ns.length * 3 + 2, none⟩ (.slice K7 (m + 1) k7)) (some ⟨pb, po, none⟩) (ps.drop j) := by
          refine S2.out.1.fr (F := fun k => base ≤ k) (F' := fun k => base ≤ k) ⟨HB8.out.os, HB8.out.tape, HB8.out.output, HB8.out.size, fun k hk hF => HB8.out.block k (by omega), fun k _ h => h⟩ (fun p hp => ?_)
          have := S2.out.2.1 p hp
          omega
        have hP9 := hP8.drop 1
        rw [List.drop_drop] at hP9
        have hj : j < ps.length := by omega
        have hx : ps.take (j + 1) = ps.take j ++ [x] ∧ l = ps.drop (j + 1) := by
          have := HDX.out.1
          rw [List.drop_eq_getElem_cons hj] at this
          injection this with t1 t2
          rw [List.take_succ_eq_append_getElem hj, t1]
          exact ⟨rfl, t2.symm⟩
        have hw1 : ps.takeWhile (endsB dep) = ps.take (j + 1) ++ (ps.drop (j + 1)).takeWhile (endsB dep) := by
          rw [S2.out.2.2.2.2.1, HDX.out.1, List.takeWhile_cons, HDX.out.2, hx.1, ← hx.2]; simp
        have hw2 : ps.dropWhile (endsB dep) = (ps.drop (j + 1)).dropWhile (endsB dep) := by
          rw [S2.out.2.2.2.2.2, HDX.out.1, List.dropWhile_cons, HDX.out.2, ← hx.2]; simp
        have HEND := Lib.hid (And.intro hP9 (And.intro hw1 hw2))
        have HAB := Lib.hid S2.out.2.1
        clear S2 hP8 hP9 hj hx hw1 hw2 c0 cI cK c7 i7 cD2
        generalize w7.setCell ⟨G4, ns.length * 3 + 2, none⟩ (.slice K7 (m + 1) k7) = w8 at HP HB8 HEND ⊢
        have hn1z : (1 : Int) ≤ (n : Int) := by omega
        have hnpz : (n : Int) ≤ (pc' : Int) := by omega
        have h1pz : (1 : Int) ≤ (pc' : Int) := by omega
        by_cases hc1 : pc' = 1
        · have hn2 : n = 1 := by omega
          subst hc1 hn2
          go_wp2
          go_roundg 0
          case measure => omega
          case rel => exact ⟨j + 1, 0, _, _, upd vl (2 * ns.length + 1) (.slice K7 (m + 1) k7), ys.set (ns.length * 3 + 2) (.slice K7 (m + 1) k7), by omega, Nat.le_refl _, rfl, Nat.zero_le _, by omega, ⟨.inl (List.drop_eq_nil_of_le (by omega)), HAB.out, HP.out.1, HP.out.2, HEND.out.2.1, HEND.out.2.2⟩⟩
        · have hc2 : 1 < pc' := by omega
          go_wp2
          go_roundg (n - 1)
          case measure => omega
          case rel => exact ⟨j + 1, n - 1, _, _, upd vl (2 * ns.length + 1) (.slice K7 (m + 1) k7), ys.set (ns.length * 3 + 2) (.slice K7 (m + 1) k7), by omega, Nat.le_refl _, rfl, by omega, by omega, ⟨by first | exact HEND.out.1 | simpa using HEND.out.1, fun p hp => by injection hp with hp; subst hp; exact hpbb, HP.out.1, HP.out.2, HEND.out.2.1, HEND.out.2.2⟩⟩

      · have cKa := cell_alloc cK (.cells #[.int .i64 x.2] 3)
        have hGla : G4 < (wq.alloc (.cells #[.int .i64 x.2] 3)).heap.size := by rw [World.size_alloc]; omega
        go_simp
        refine hK.out _ _ ?_ (fun hHeld => ?_)
        · exact cell_alloc cI _
        clear hK K
        refine wpAnyH_ready (rs := [6]) (by kernel_rfl) (by simp) ?_
        refine AllReadyH.cons rfl (fun K hK => ?_) AllReadyH.nil
        go_simp
        refine hK.out _ _ ?_ (fun hHeld => ?_)
        · exact cell_alloc cI _
        clear hK K
        refine wpAnyH_ready (rs := [12]) (by kernel_rfl) (by simp) ?_
        refine AllReadyH.cons rfl (fun K hK => ?_) AllReadyH.nil
        refine step_own_at (wq.alloc (.cells #[.int .i64 x.2] 3)).drew rfl _ _ 26 rfl base 3 j0 (.int .i64 0) 1 8 Try.underlying26 HJ.out.1 HJ.out.2.1 HJ.out.2.2.1 HJ.out.2.2.2 rfl (by decide) _ _ _ rfl (HO1.out.1.alloc _).drew ⟨wq.heap.size, 0, none⟩ 1 1 [.int .i64 x.2] rfl rfl (fun j u hj => cell_one_new _ _ _ j u hj) (fun u hu => by simp at hu; subst hu; rfl) (by unfold maxLen; omega) (by omega) (by show base ≤ (wq.alloc _).heap.size; rw [World.size_alloc]; omega) ?_
        intro v' w7 hown' hgrow hblk
        obtain ⟨K7, k7, rfl⟩ := own_form hown'
        have hrow7 := ((HO1.out.2.2.alloc (.cells #[.int .i64 x.2] 3)).drew).kept hgrow (.inr (fun e => HO1.out.2.1 e.symm))
        have c7 : w7.cell? ⟨G4, ns.length * 3 + 2, none⟩ = some (.slice KA m kc) := by
          rw [hrow7.cellAt _ (by omega), ← HO1.out.2.2.cellAt _ (by omega)]; exact cK
        have hb7 : Below base wq w7 := (((Below.refl base wq).alloc hbsz _).drew).grown hgrow (by show base ≤ (wq.alloc _).heap.size; rw [World.size_alloc]; omega) (fun k hk => (HO1.out.1.lt k hk).1)
        have i7 : w7.cell? ⟨pb, po + 1, none⟩ = some (.int .i64 x.2) := (hb7.cell (p := ⟨pb, po + 1, none⟩) hpbb).trans cI
        have f7 := hrow7.frozenAt (ns.length * 3 + 2)
        have h7 := (hrow7.lt G4 rfl).2
        have hg2 : (wq.alloc (.cells #[.int .i64 x.2] 3)).drew.grownBy w7 (vl (2 * ns.length + 1)).ownBlock := by rw [HEK.out, ← HM.out]; exact hgrow
        have hbl2 : (Value.slice K7 (m + 1) k7).ownBlock = (vl (2 * ns.length + 1)).ownBlock ∨ (Value.slice K7 (m + 1) k7).ownBlock = some (wq.alloc (.cells #[.int .i64 x.2] 3)).drew.heap.size := by rw [HEK.out, ← HM.out]; exact hblk
        have e1 : (2 * ns.length + 1) / 2 * 3 + 1 + (2 * ns.length + 1) % 2 = ns.length * 3 + 2 := by omega
        have hFo : Fo base (.slice (some ⟨G4, 0, none⟩) (ns ++ [(⟨last, [], (ps.take j).map (·.2)⟩ : Node)]).length c4) (ns ++ [⟨last, [], (ps.take j).map (·.2)⟩]) vl ys wq := by rw [HNN.out.1]; exact S2.out.2.2.1
        have p1 := ((hFo.alloc (.cells #[.int .i64 x.2] 3)).drew).put (x := x.2) HNN.out.2 hg2 (by rw [← HM.out]; exact hown') hbl2
        have hFr2 : Fr (Foot (.slice (some ⟨G4, 0, none⟩) (ns.length + 1) c4) (ns.length + 1) val4) (Foot (.slice (some ⟨G4, 0, none⟩) (ns ++ [(⟨last, [], (ps.take j).map (·.2)⟩ : Node)]).length c4) (ns ++ [(⟨last, [], (ps.take j).map (·.2)⟩ : Node)]).length vl) w4 wq := by rw [HNN.out.1]; exact S2.out.2.2.2.1
        have p2 := (hFr2.trans (Fr.of_below _ (below_box (.cells #[.int .i64 x.2] 3)).drew)).put (x := x.2) (c := ns.length * 3 + 2) (v' := .slice K7 (m + 1) k7) HNN.out.2 hg2 hbl2
        rw [e1] at p1
        have hmore : moreAt (ns ++ [(⟨last, [], (ps.take j).map (·.2)⟩ : Node)]) (2 * ns.length + 1) x.2 = ns ++ [⟨last, [], (ps.take (j + 1)).map (·.2)⟩] := by
          rw [more_ids]
          have hx : ps.take (j + 1) = ps.take j ++ [x] := by
            have hj : j < ps.length := by omega
            rw [List.take_succ_eq_append_getElem hj]
            have := HDX.out.1
            rw [List.drop_eq_getElem_cons hj] at this
            injection this with this _
            rw [this]
          rw [hx]; simp
        rw [hmore] at p1
        rw [moreAt_length, HNN.out.1] at p2
        rw [HNN.out.1] at p1
        have HP := Lib.hid (And.intro p1 p2)
        clear hown' hgrow hblk hg2 hbl2 hrow7 e1 hFo hFr2 p1 p2 hmore
        have hb8 : Below base wq (w7.setCell ⟨G4, ns.length * 3 + 2, none⟩ (.slice K7 (m + 1) k7)) := hb7.setCell hGl.1 _
        have HB8 := Lib.hid hb8
        clear hb8 hb7
        go_simp
        refine hK.out _ _ ?_ (fun hHeld => ?_)
        · exact i7
        clear hK K
        (first
          | (refine held_take (i := 13) (v := ?_) rfl (by kernel_rfl) (by kernel_rfl) (by kernel_rfl) (fun _ _ _ h => h) (Or.inl ⟨rfl, ?_⟩) (by assumption) ?_; rotate_left; (intro X hSw; (try dsimp only at hSw); (go_simp <;> with_reducible rfl)))
          | (refine held_take (i := 13) (v := undef) rfl (by kernel_rfl) (by kernel_rfl) (by kernel_rfl) (fun _ _ _ h => h) (Or.inr ⟨rfl, rfl⟩) (by assumption) ?_)); simp only [Act.put, List.setIfInBounds_toArray, List.set_cons_zero, List.set_cons_succ]
        (first
          | (refine held_take (i := 14) (v := ?_) rfl (by kernel_rfl) (by kernel_rfl) (by kernel_rfl) (fun _ _ _ h => h) (Or.inl ⟨rfl, ?_⟩) (by assumption) ?_; rotate_left; (intro X hSw; (try dsimp only at hSw); (go_simp <;> with_reducible rfl)))
          | (refine held_take (i := 14) (v := undef) rfl (by kernel_rfl) (by kernel_rfl) (by kernel_rfl) (fun _ _ _ h => h) (Or.inr ⟨rfl, rfl⟩) (by assumption) ?_)); simp only [Act.put, List.setIfInBounds_toArray, List.set_cons_zero, List.set_cons_succ]
        refine wpAnyH_ready (rs := [15]) (by kernel_rfl) (by simp) ?_
        refine AllReadyH.cons rfl (fun K hK => ?_) AllReadyH.nil
        go_simp
        refine hK.out _ _ ?_ (fun hHeld => ?_)
        · exact (HB8.out.cell (p := ⟨pb, po + 1, none⟩) hpbb).trans cI
        clear hK K
        refine wpAnyH_done (by kernel_rfl) ?_ _
        have hP8 : PRow (w7.setCell ⟨G4, ns.length * 3 + 2, none⟩ (.slice K7 (m + 1) k7)) (some ⟨pb, po, none⟩) (ps.drop j) := by
          refine S2.out.1.fr (F := fun k => base ≤ k) (F' := fun k => base ≤ k) ⟨HB8.out.os, HB8.out.tape, HB8.out.output, HB8.out.size, fun k hk hF => HB8.out.block k (by omega), fun k _ h => h⟩ (fun p hp => ?_)
          have := S2.out.2.1 p hp
          omega
        have hP9 := hP8.drop 1
        rw [List.drop_drop] at hP9
        have hj : j < ps.length := by omega
        have hx : ps.take (j + 1) = ps.take j ++ [x] ∧ l = ps.drop (j + 1) := by
          have := HDX.out.1
          rw [List.drop_eq_getElem_cons hj] at this
          injection this with t1 t2
          rw [List.take_succ_eq_append_getElem hj, t1]
          exact ⟨rfl, t2.symm⟩
        have hw1 : ps.takeWhile (endsB dep) = ps.take (j + 1) ++ (ps.drop (j + 1)).takeWhile (endsB dep) := by
          rw [S2.out.2.2.2.2.1, HDX.out.1, List.takeWhile_cons, HDX.out.2, hx.1, ← hx.2]; simp
        have hw2 : ps.dropWhile (endsB dep) = (ps.drop (j + 1)).dropWhile (endsB dep) := by
          rw [S2.out.2.2.2.2.2, HDX.out.1, List.dropWhile_cons, HDX.out.2, ← hx.2]; simp
        have HEND := Lib.hid (And.intro hP9 (And.intro hw1 hw2))
        have HAB := Lib.hid S2.out.2.1
        clear S2 hP8 hP9 hj hx hw1 hw2 c0 cI cK c7 i7 cD2
        generalize w7.setCell ⟨G4, ns.length * 3 + 2, none⟩ (.slice K7 (m + 1) k7) = w8 at HP HB8 HEND ⊢
        have hn1z : (1 : Int) ≤ (n : Int) := by omega
        have hnpz : (n : Int) ≤ (pc' : Int) := by omega
        have h1pz : (1 : Int) ≤ (pc' : Int) := by omega
        by_cases hc1 : pc' = 1
        · have hn2 : n = 1 := by omega
          subst hc1 hn2
          go_wp2
          go_roundg 0
          case measure => omega
          case rel => exact ⟨j + 1, 0, _, _, upd vl (2 * ns.length + 1) (.slice K7 (m + 1) k7), ys.set (ns.length * 3 + 2) (.slice K7 (m + 1) k7), by omega, Nat.le_refl _, rfl, Nat.zero_le _, by omega, ⟨.inl (List.drop_eq_nil_of_le (by omega)), HAB.out, HP.out.1, HP.out.2, HEND.out.2.1, HEND.out.2.2⟩⟩
        · have hc2 : 1 < pc' := by omega
          go_wp2
          go_roundg (n - 1)
          case measure => omega
          case rel => exact ⟨j + 1, n - 1, _, _, upd vl (2 * ns.length + 1) (.slice K7 (m + 1) k7), ys.set (ns.length * 3 + 2) (.slice K7 (m + 1) k7), by omega, Nat.le_refl _, rfl, by omega, by omega, ⟨by first | exact HEND.out.1 | simpa using HEND.out.1, fun p hp => by injection hp with hp; subst hp; exact hpbb, HP.out.1, HP.out.2, HEND.out.2.1, HEND.out.2.2⟩⟩


theorem growI_any {ss : List ByteArray} {en : Int} {P : List PP} (hP : Few ss en P) : ∀ f, GrowsI P f
  | 0 => growI_step hP 0 (fun g h => by omega)
  | f + 1 => growI_step hP (f + 1) (fun g h => by
    obtain rfl : g = f := by omega
    exact growI_any hP g)

end Go.Proofs.Ytcanhkngikeeiaa
