/- The node of a text: impl.TrieFind. -/
import Derived.Test.YtcanhkngikeeiaaN8
namespace Go.Proofs.Ytcanhkngikeeiaa
open Go.RowKit
set_option linter.unusedVariables false

/-- What impl.TrieFind has in memory: the nodes' variable, the text's variable, the nodes. -/
structure FS (w0 : World) (P : Nat) (a : Option Addr) (c : Nat) (ns : List Node) (t : ByteArray) (w : World) : Prop where
  p : w.cell? ⟨P, 0, none⟩ = some (.slice a ns.length c)
  q : w.cell? ⟨P + 1, 0, none⟩ = some (.string t)
  b : Below w0.heap.size w0 w
theorem FS.keep {w0 w w' : World} {P : Nat} {a : Option Addr} {c : Nat} {ns : List Node} {t : ByteArray} (h : FS w0 P a c ns t w) (hb : Below w.heap.size w w') : FS w0 P a c ns t w' := ⟨cell_keep hb h.p, cell_keep hb h.q, h.b.trans (hb.mono h.b.size)⟩
theorem FS.drewN {w0 w : World} {P : Nat} {a : Option Addr} {c : Nat} {ns : List Node} {t : ByteArray} (h : FS w0 P a c ns t w) (n : Nat) : FS w0 P a c ns t (w.drewN n) := ⟨h.p, h.q, below_drewN h.b n⟩

set_option maxRecDepth 100000 in
set_option maxHeartbeats 2000000 in
theorem implFind_any (a : Option Addr) (c : Nat) (ns : List Node) (t : ByteArray) (w : World) (hr : Nodes w a ns) (hm : ns.length ≤ 1048576) (hs : Small ns) (ht : t.size ≤ 1048576) :
    Calls Try.prog 33 #[.slice a ns.length c, .string t] w fun e w' => e = .returned (.int .i64 (findR ns t)) ∧ Below w.heap.size w w' := by
  have HR := Lib.hid hr
  have HS := Lib.hid hs
  clear hr hs
  have bel := (below_box (w := w) (.cells #[.slice a ns.length c] 41)).alloc (by simp) (.cells #[.string t] 9)
  have oP : FS w w.heap.size a c ns t ((w.alloc (.cells #[.slice a ns.length c] 41)).alloc (.cells #[.string t] 9)) := ⟨by simp, by simp, bel⟩
  cases hB : treeB ns
  · have HB := Lib.hid hB
    clear hB
    go_enter Try.func33, Try.ntmps33
    go_wp2_with fail
    refine (isTree_any a c ns _ (HR.out.keep bel) hm HS.out).mono ?_
    rw [HB.out]
    rintro e w1 ⟨rfl, hb⟩
    have HF := oP.keep hb
    go_wp2
    go_ret
    exact ⟨ret_int (by simp [findR, HB.out]), HF.b⟩
  · obtain ⟨hn1, hn2, hki⟩ := treeB_in hB
    have HB := Lib.hid hB
    have HKI : Hid (KidsIn ns) := Lib.hid hki
    clear hB hki
    go_enter Try.func33, Try.ntmps33
    go_wp2_with fail
    refine (isTree_any a c ns _ (HR.out.keep bel) hm HS.out).mono ?_
    rw [HB.out]
    rintro e w1 ⟨rfl, hb⟩
    have HF := oP.keep hb
    clear oP bel hb
    have p0 := HF.p
    have q0 := HF.q
    go_wp2
    go_loopw [5, 14] (fun x i wr => ∃ at_ k : Nat, x = .int .i64 at_ ∧ i = .int .i64 k ∧ at_ < ns.length ∧ k ≤ t.size ∧ Hid (findR ns t = findGo ns at_ (t.data.toList.drop k)) ∧ FS w w.heap.size a c ns t wr) (fun _ i _ => t.size - (intOf i).toNat)
    case atStart => exact ⟨0, 0, rfl, rfl, by omega, Nat.zero_le _, by unfold Hid; simp [findR, HB.out], HF⟩
    case round =>
      clear HF p0 q0
      obtain ⟨at_, k, rfl, rfl, hat, hk, HFD, HF⟩ := hrel
      have p0 := HF.p
      have q0 := HF.q
      by_cases hlt : k < t.size
      · have hlt' : (k : Int) < (t.size : Int) := by omega
        have hat' : (at_ : Int) < (ns.length : Int) := by omega
        have HST := Lib.hid (findGo_step ns t at_ k hat hlt)
        have hN := HR.out.keep HF.b
        obtain ⟨b, off, rfl, K, kc, J, jc, hn⟩ := hN.at_ hat
        have hkin := HKI.out _ (List.getElem_mem hat)
        obtain ⟨hz1, hz2⟩ := HS.out _ (List.getElem_mem hat)
        have c1 := hn.c1
        generalize hnd : ns[at_] = nd at *
        have HKIN := Lib.hid hkin
        clear hnd hkin
        have hbx : Below wr.heap.size wr (wr.alloc (.cells #[.int .i64 k] 3)) := below_box _
        have HF2 := HF.keep hbx
        have hcap : Cap (wr.alloc (.cells #[.int .i64 k] 3)) w.heap.size (w.heap.size + 1) wr.heap.size (some ⟨b, off, none⟩) c ns t k := ⟨HF2.p, HF2.q, by simp, hN.keep hbx⟩
        have hkr := hn.k.keep hbx
        have hsz1 := cell_lt p0
        have hsz2 := cell_lt q0
        have hsz3 := cell_lt c1
        simp at hsz1 hsz2 hsz3
        clear hn hN
        go_wp2_with fail
        refine (idx_any w.heap.size (w.heap.size + 1) wr.heap.size (some ⟨b, off, none⟩) c ns t k K kc nd.kids _ hcap hm hlt ht hkr hz1 HKIN.out).mono ?_
        rintro e w2 ⟨r, rfl, hres, m, rfl⟩
        have HF3 := HF2.drewN m
        clear HF HF2 hcap p0 q0 c1 hbx
        rcases hres with ⟨rfl, hres⟩ | ⟨j, hj, rfl, hres⟩
        · have HRS := Lib.hid hres
          clear hres
          go_wp2
          go_ret
          refine ⟨?_, HF3.b⟩
          rw [HFD.out, HST.out, HRS.out]
          rfl
        · have hj' : (j : Int) < (nd.kids.length : Int) := by omega
          obtain ⟨kb, ko, rfl, hck⟩ := hkr.int hj
          replace hck : ((wr.alloc (.cells #[.int .i64 k] 3)).drewN m).cell? ⟨kb, ko + j, none⟩ = _ := hck
          obtain ⟨hx0, hx1⟩ := HKIN.out _ (List.getElem_mem hj)
          rw [hres] at hck hx0 hx1
          generalize kidOf ns (t[k].toNat : Int) nd.kids = kd at *
          obtain ⟨kn, rfl⟩ : ∃ kn : Nat, kd = kn := ⟨kd.toNat, by omega⟩
          have hkn : ¬ (kn : Int) < 0 := by omega
          have HST2 := Lib.hid (show findGo ns at_ (t.data.toList.drop k) = findGo ns kn (t.data.toList.drop (k + 1)) by rw [HST.out, if_neg hkn])
          clear HST hres
          go_wp2
          go_roundw
          case rel => exact ⟨kn, k + 1, rfl, by go_num, by omega, by omega, HFD.out.trans HST2.out, HF3⟩
          case measure => simp [intOf]; omega
      · have hlt' : ¬ (k : Int) < (t.size : Int) := by omega
        go_wp2
        go_ret
        refine ⟨?_, HF.b⟩
        rw [HFD.out, List.drop_eq_nil_of_le (by simpa using hlt)]
        rfl

end Go.Proofs.Ytcanhkngikeeiaa
