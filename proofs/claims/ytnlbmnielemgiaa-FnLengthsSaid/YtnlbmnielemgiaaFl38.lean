/-
  Braid moves: what the model's ReducedWords returns.
  Plain facts on numbers and bytes (no program): bit operations on small numbers.
-/
import Derived.Deep.RegionHeld3
import Derived.Test.YtnlbmnielemgiaaFl37
import Derived.WalkKit
import Derived.Laws.Bits64b
import Derived.Laws.Bits128
import Derived.Laws.BitsAllLaws
namespace Go.Proofs.Ytnlbmnielemgiaa
open Go.RowKit

/-- 'out = append(out, row)', told that the call's other rows stay. -/
theorem append_rowG {ops : Array Oper} {rest : List Oper} {o : Oper} {a : Act} {Q : Exit → Act → World → Prop} {s x : Operand} {A B : Nat} {v rv : Value} {m : List (List Int)} {l : List Int} {wr : World}
    (hM : MatA A B wr v m) (hr : RowI A wr.heap.size wr rv l) (hBw : B ≤ wr.heap.size) (hgd : o.guard = none)
    (ho : o.op = .call { callee := .builtin .append, args := #[s, x], argTypes := #[24, 24] }) (hs : a.eval s = v)
    (hx : a.eval x = .slice (some ⟨wr.heap.size, 0, none⟩) 1 1) (hlen : m.length ≤ 1048576)
    (h : ∀ v' w', MatA A B w' v' (m ++ [l]) → (∀ W C, C ≤ B → Below C W wr → Below C W w') → wr.heap.size ≤ w'.heap.size → (∀ (A2 : Nat) (pv : Value) (l2 : List Int), RowI A2 wr.heap.size wr pv l2 → RowI A2 w'.heap.size w' pv l2) → wpList Try.prog ops Q rest (a.put o.dst v') w') :
    wpList Try.prog ops Q (o :: rest) a (wr.alloc (.cells #[rv] 25)) := by
  obtain ⟨hh, h1, h3⟩ := hM
  have hll : hh.length = m.length := by have := h1.1; omega
  obtain ⟨i0, hi, hz0, hz1, hz2⟩ := info_parts Try.infoRow
  have h1' : wr.ownsRow B 25 1 v hh.length hh := by rw [hll]; exact h1
  have hone : rv.oneCell' = true := by
    obtain ⟨ra, rcap, rfl⟩ := hr.slice
    rfl
  refine append_hdr hgd _ _ 24 ho B 25 i0 (.slice none 0 0) 24 Try.underlying24 hi hz0 hz1 hz2 rfl v hh rv hone wr hs h1' hx (by omega) (by omega) (by omega) ?_
  intro v' w' ho' hg
  refine h v' w' ⟨hh ++ [rv], ?_, fun j hj => ?_⟩ (fun W C hC hb => ?_) hg.size (fun A2 pv l2 h2 => (h2.grown hg (own_differ2 h1 h2.1)).mono (Nat.le_refl _) hg.size)
  · rw [List.length_append, hll] at ho'
    rw [List.length_append]; exact ho'
  · rw [List.length_append] at hj
    rcases Nat.lt_or_ge j m.length with hjm | hjm
    · obtain ⟨hv, h4, h5⟩ := h3 j hjm
      refine ⟨hv, by rw [List.getElem?_append_left (by omega)]; exact h4, ?_⟩
      rw [List.getElem_append_left hjm]
      exact (h5.grown hg (own_differ2 h1 h5.1)).mono (Nat.le_refl _) hg.size
    · have hjm' : j = m.length := by simp at hj; omega
      subst hjm'
      refine ⟨rv, by rw [List.getElem?_append_right (by omega), hll]; simp, ?_⟩
      rw [List.getElem_append_right (Nat.le_refl _)]
      simp only [Nat.sub_self, List.getElem_singleton]
      exact (hr.grown hg (own_differ2 h1 hr.1)).mono (Nat.le_refl _) hg.size
  · exact hb.grown hg (by omega) (fun k hk => by have := (h1.lt k hk).1; omega)

/-- All reduced words in their order, or more than there may be. -/
def RdW (m : List (List Int)) (ws : List Int) (w : World) (e : Ending) (w' : World) : Prop :=
  ∃ (xv : Value) (b : Bool) (L : List (List Int)), e = .returned (.tuple #[xv, .bool b]) ∧ MatA w.heap.size w.heap.size w' xv L ∧ Below w.heap.size w w' ∧
    (b = true → ∃ Q, QuI m (nrmL m ws) Q Q.length ∧ L = srtK Q Q.length) ∧ (b = false → L = [] ∧ (IsW m ws → ∃ Q : List (List Int), Q.Nodup ∧ Q.length = 121 ∧ ∀ q ∈ Q, GoodW m (nrmL m ws) q)) ∧ (b = true → IsW m ws)
set_option maxHeartbeats 8000000 in
set_option maxRecDepth 100000 in
theorem rdws_any (B B' : Nat) (v v' : Value) (m : List (List Int)) (ws : List Int) (w : World) (h : MatB B w v m) (h' : RowB B' w v' ws) (hB : B ≤ w.heap.size) (hB' : B' ≤ w.heap.size) (hf : RowsFit m) (hw : ws.length ≤ 1048576) :
    Calls Try.prog 32 #[v, v'] w (RdW m ws w) := by
  have HN := Lib.hid (nrms_any B B' v v' m ws w h h' hB hB' hf hw)
  by_cases hW : IsW m ws
  · rw [wordB_yes hW] at HN
    have HWW := Lib.hid hW
    have HBP := Lib.hid (fun (x : Value) (q : List Int) (hq : q.length ≤ 100000) (wx : World) (hb : Below w.heap.size w wx) (hx : RowI w.heap.size wx.heap.size wx x q) => braps_any B w.heap.size v x m q wx (h.below hb hB) hx (Nat.le_trans hB hb.size) hf hq)
    have HBA := Lib.hid (fun (x : Value) (q : List Int) (t : Int) (ht : -1048576 ≤ t ∧ t ≤ 1048576) (hq : q.length ≤ 1048576) (wx : World) (hb : Below w.heap.size w wx) (hx : RowI w.heap.size wx.heap.size wx x q) => bats_any B w.heap.size v x m q t wx (h.below hb hB) hx (Nat.le_trans hB hb.size) hf hq ht)
    have HG0 := Lib.hid (qu_start (good_self hW))
    have hx15 : (nrmL m ws).length ≤ 15 := (nrm_word hW).2.2
    have HGB := Lib.hid (fun (q : List Int) (a : Int) (hG : GoodW m (nrmL m ws) q) (hok : brB m q a = true) => br_good hG (brB_ok hok))
    have HX15 := Lib.hid hx15
    generalize hx : nrmL m ws = x at *
    have HXD := Lib.hid hx; clear hx
    obtain ⟨a, cap, rfl⟩ := h.slice
    obtain ⟨a', cap', rfl⟩ := h'.slice
    clear h h' hf hW
    generalize hxn : x.length = xn at *
    have HXN := Lib.hid hxn; clear hxn
    have h15a : decide (15 < xn) = false := decide_eq_false (by omega)
    have h15b : decide ((15 : Int) < (xn : Int)) = false := decide_eq_false (by omega)
    have h15c : ¬ (15 : Int) < (xn : Int) := by omega
    go_enter Try.func32, Try.ntmps32
    go_wp2_with fail
    refine HN.out.mono ?_
    rintro e w1 ⟨xv, rfl, ⟨hx, _⟩, hb1⟩
    have hrl := row_lit1 hx hb1.size
    have hba : Below w.heap.size w (w1.alloc (.cells #[xv] 25)) := hb1.alloc hb1.size _
    obtain ⟨xa, xcap, rfl⟩ := hx.slice
    rw [HXN.out] at hrl hba ⊢
    have HRL := Lib.hid hrl
    have HBA1 := Lib.hid hba
    clear hx hb1 hrl hba HN
    go_wp2_with fail
    go_loopw [8, 9] (fun qv i wr => ∃ (k : Nat) (Q : List (List Int)) (wq : World), wq = wr ∧ i = .int .i64 k ∧ k ≤ Q.length ∧ Hid (QuI m x Q k) ∧ MatA w.heap.size w.heap.size wq qv Q ∧ Below w.heap.size w wq) (fun _ i _ => 121 - (intOf i).toNat)
    case atStart => exact ⟨0, [x], _, rfl, rfl, Nat.zero_le _, HG0, HRL.out, HBA1.out⟩
    case round =>
      obtain ⟨k, Q, wq, rfl, rfl, hk, HQI, hM, hb⟩ := hrel
      have HM := Lib.hid hM; have HB := Lib.hid hb
      have hsq := hb.size
      obtain ⟨qa, qcap, rfl⟩ := hM.slice
      have hQ120 := HQI.out.le
      by_cases hlt : k < Q.length
      · have hd : decide (k < Q.length) = true := decide_eq_true hlt
        have HGK := Lib.hid (HQI.out.good _ (getD_memL hlt))
        obtain ⟨g, ra, rcap, hkl, rfl, hg, hc0, hrow0⟩ := hM.rowA hlt
        have HQ15 := Lib.hid (show (Q.getD k []).length ≤ 15 from HGK.out.1.2.2)
        have HPC := Lib.hid (HBP.out _ (Q.getD k []) (by have := HQ15.out; omega) wq hb hrow0)
        have HTN := Lib.hid (fun (Q' : List (List Int)) (hq : QuI m x Q' k) (hk' : k < Q'.length) (he : Q'.getD k [] = Q.getD k []) (hP : ∀ n, n < (brP m (Q.getD k []) (Q.getD k []).length).length → brL m (Q.getD k []) ((brP m (Q.getD k []) (Q.getD k []).length).getD n 0) ∈ Q') => qu_turn hq hk' (by rw [he]; exact hP))
        have HPA := Lib.hid (fun (n : Nat) (hn : n < (brP m (Q.getD k []) (Q.getD k []).length).length) => brP_at hn)
        have HPL := Lib.hid (show (brP m (Q.getD k []) (Q.getD k []).length).length ≤ 15 from by have := brP_len m (Q.getD k []) (Q.getD k []).length; have := HQ15.out; omega)
        clear hM hb hrow0
        generalize hqd : Q.getD k [] = q at *
        have HQD := Lib.hid hqd; clear hqd
        generalize brP m q q.length = P at *
        generalize hqn : q.length = qn at *
        have HQN := Lib.hid hqn; clear hqn
        generalize hQn : Q.length = Qn at *
        have HQn := Lib.hid hQn; clear hQn
        go_wp2_with fail
        refine HPC.out.mono ?_
        rintro e w2 ⟨pv, rfl, ⟨hp, _⟩, hb2⟩
        have HP2 := Lib.hid (hp.mono hsq (Nat.le_refl _))
        have HM2 := Lib.hid (HM.out.step hb2)
        have HB2 := Lib.hid (HB.out.trans (hb2.mono hsq))
        obtain ⟨pa, pcap, rfl⟩ := hp.slice
        clear hp hb2 HPC hc0
        generalize hPn : P.length = Pn at *
        have HPn := Lib.hid hPn; clear hPn
        go_wp2_with fail
        go_loopw [8, 11] (fun qv i wr => ∃ (n : Nat) (Q' : List (List Int)) (wr2 : World), wr2 = wr ∧ i = .int .i64 n ∧ n ≤ Pn ∧ Hid (QuI m x Q' k) ∧ k < Q'.length ∧ Hid (Q'.getD k [] = q) ∧ Hid (∀ j, j < n → brL m q (P.getD j 0) ∈ Q') ∧ MatA w.heap.size w.heap.size wr2 qv Q' ∧ RowI w.heap.size wr2.heap.size wr2 (.slice pa Pn pcap) P ∧ Below w.heap.size w wr2) (fun _ i _ => Pn - (intOf i).toNat)
        case atStart => exact ⟨0, Q, _, rfl, rfl, Nat.zero_le _, HQI, by have := HQn.out; omega, HQD, Lib.hid (fun j hj => absurd hj (Nat.not_lt_zero _)), HM2.out, HP2.out, HB2.out⟩
        case round =>
          obtain ⟨n, Q', wi, rfl, rfl, hn, HQI', hkQ, HQD', HDN, hM', hp', hb'⟩ := hrel
          have HM' := Lib.hid hM'; have HP' := Lib.hid hp'; have HB' := Lib.hid hb'
          have hsi := hb'.size
          obtain ⟨qa', qcap', rfl⟩ := hM'.slice
          have hQ' := HQI'.out.le
          have hn15 : n ≤ 15 := by have := HPL.out; omega
          have hk15 : k ≤ 120 := by omega
          by_cases hnl : n < Pn
          · have hdn : decide (n < Pn) = true := decide_eq_true hnl
            have HN1 : Hid (n + 1 ≤ Pn) := Lib.hid hnl
            have HKQ : Hid (k < Q'.length) := Lib.hid hkQ
            obtain ⟨t, htq, het, hbt⟩ := HPA.out n hnl
            obtain ⟨g', ra', rcap', _, rfl, hg', hc', hrow'⟩ := hM'.rowA hkQ
            rw [HQD'.out] at hc' hrow'
            rw [HQN.out] at hc' hrow'
            obtain ⟨pb, hpa, hpb⟩ : ∃ pb, pa = some ⟨pb, 0, none⟩ ∧ pb < wi.heap.size := by
              obtain ⟨pb, c2, hpe, _, hpb⟩ := hp'.at' (by rw [HPn.out]; omega)
              injection hpe with h1 _ _
              exact ⟨pb, h1, hpb⟩
            subst hpa
            have hcp : wi.cell? ⟨pb, n, none⟩ = some (.int .i64 (t : Int)) := by
              have h1 := hp'.1
              rw [HPn.out] at h1
              rw [h1.cellAt n (by omega)]
              have h2 : P[n]? = some (t : Int) := by
                have h3 : n < P.length := by rw [HPn.out]; exact hnl
                have e : P.getD n 0 = P[n] := by simp [List.getD, h3]
                rw [List.getElem?_eq_getElem h3, ← e, het]
              simp [intsV, h2]
            have hg's : g' < wi.heap.size := hg'
            have HKS := Lib.hid (fun w2 (hb : Below wi.heap.size wi w2) => (⟨hb, (hb.cell (p := ⟨g', k, none⟩) hg's).trans hc', (hb.cell (p := ⟨pb, n, none⟩) hpb).trans hcp⟩ : Below wi.heap.size wi w2 ∧ w2.cell? ⟨g', k, none⟩ = some (.slice ra' qn rcap') ∧ w2.cell? ⟨pb, n, none⟩ = some (.int .i64 (t : Int))))
            have HCB := Lib.hid (HBA.out (.slice ra' qn rcap') q (t : Int) (by have := HQ15.out; omega) (by have := HQ15.out; have := HQN.out; omega) wi.drew (hb'.trans ((below_drewN (w := wi) 1).mono hsi)) (hrow'.step (below_drewN (w := wi) 1)))
            rw [hbt] at HCB
            have HGY := Lib.hid (HGB.out q (t : Int) HGK.out hbt)
            have HDY := Lib.hid (show brL m q (P.getD n 0) = brL m q (t : Int) from by rw [het])
            have hk0 : (0 : Int) ≤ (k : Int) := by omega
            have hkq : (k : Int) < (Q'.length : Int) := by omega
            have hn0 : (0 : Int) ≤ (n : Int) := by omega
            have hnp : (n : Int) < (Pn : Int) := by omega
            have HMQ' := Lib.hid (fun (w2 : World) (hb : Below wi.heap.size wi w2) => HM'.out.step hb)
            have HPQ' := Lib.hid (fun (w2 : World) (hb : Below wi.heap.size wi w2) => HP'.out.step hb)
            have HFQ := Lib.hid (show RowsFit Q' from ⟨by have := HQI'.out.le; unfold maxLen; omega, fun j hj => by have := (HQI'.out.good _ (List.getElem_mem hj)).1.2.2; unfold maxLen; omega⟩)
            clear hM' hp' hb' hrow' hc' hcp hbt het htq
            generalize brL m q (t : Int) = y at *
            generalize hQl : Q'.length = Ql at *
            have HQl := Lib.hid hQl; clear hQl
            go_wp2_with fail
            go_region_held3 (fun w' => Below wi.heap.size wi w' ∧ w'.cell? ⟨g', k, none⟩ = some (.slice ra' qn rcap') ∧ w'.cell? ⟨pb, n, none⟩ = some (.int .i64 (t : Int))) (first | exact HKS.out _ (Below.refl _ _).drew | exact HKS.out _ hbW)
              (first
                | (go_at_call 72; refine HCB.out.mono ?_; rintro e' w5 ⟨yv, rfl, ⟨hy, _⟩, hb5⟩; have hbW : Below wi.heap.size wi w5 := (Below.refl wi.heap.size wi).drew.trans hb5; have HY := Lib.hid (hy.mono hsi (Nat.le_refl _)); clear hy hb5))
            obtain ⟨ya, yc, rfl⟩ := HY.out.slice
            generalize hyn : y.length = yn at *
            have HYN := Lib.hid hyn; clear hyn
            have HM5 := Lib.hid (HMQ'.out w5 hbW)
            have HP5 := Lib.hid (HPQ'.out w5 hbW)
            have HB5 := Lib.hid (HB'.out.trans (hbW.mono hsi))
            have hs5 : w.heap.size ≤ w5.heap.size := HB5.out.size
            have HIN := Lib.hid (ins_any w5.heap.size w5.heap.size (.slice (some ⟨g', 0, none⟩) Ql qcap') (.slice ya yn yc) Q' y w5 HM5.out.matB HY.out.rowB HFQ.out (by have := HGY.out.1.2.2; unfold maxLen; omega))
            clear HMQ' HPQ' HKS HCB hbW
            by_cases hin : y ∈ Q'
            · have e1 : inRB Q' y = true := decide_eq_true hin
              rw [e1] at HIN
              have HDN2 := Lib.hid (show ∀ j, j < n + 1 → brL m q (P.getD j 0) ∈ Q' from fun j hj => by
                rcases Nat.lt_or_ge j n with h | h
                · exact HDN.out j h
                · obtain rfl : j = n := by omega
                  rw [HDY.out]; exact hin)
              clear e1 hin
              go_wp2_with fail
              refine HIN.out.mono ?_
              rintro e w6 ⟨rfl, q6, rfl⟩
              have hb6 : Below w5.heap.size w5 (w5.drewN q6) := below_drewN q6
              have HM6 := Lib.hid (HM5.out.step hb6)
              have HP6 := Lib.hid (HP5.out.step hb6)
              have HB6 := Lib.hid (HB5.out.trans (hb6.mono hs5))
              clear hb6 HIN
              go_wp2_with fail
              exact ⟨⟨n + 1, Q', _, rfl, by go_num, HN1.out, HQI', (by have := HKQ.out; have := HQl.out; omega), HQD', HDN2, HM6.out, HP6.out, HB6.out⟩, by have := HN1.out; simp [intOf]; omega⟩
            · have e1 : inRB Q' y = false := decide_eq_false hin
              rw [e1] at HIN
              have HIQ := Lib.hid hin
              clear e1 hin
              by_cases h120 : 120 ≤ Ql
              · have hd1 : decide (120 ≤ Ql) = true := decide_eq_true h120
                have hd2 : decide ((120 : Int) ≤ (Ql : Int)) = true := decide_eq_true (by omega)
                have hd3 : (120 : Int) ≤ (Ql : Int) := by omega
                go_wp2_with fail
                refine HIN.out.mono ?_
                rintro e w6 ⟨rfl, q6, rfl⟩
                have hb6 : Below w5.heap.size w5 (w5.drewN q6) := below_drewN q6
                have HB6 := Lib.hid (HB5.out.trans (hb6.mono hs5))
                clear hb6 HIN
                go_wp2_with fail
                go_ret2
                refine ⟨_, false, [], rfl, (MatA.empty w.heap.size (w5.drewN q6)).mono (Nat.le_refl _) HB6.out.size, HB6.out.alloc HB6.out.size _, fun h => absurd h (by simp), fun _ => ⟨rfl, fun _ => ⟨Q' ++ [y], ?_, ?_, ?_⟩⟩, fun h => absurd h (by simp)⟩
                · exact List.nodup_append.2 ⟨HQI'.out.nodup, by simp, fun a ha b hb => by rw [List.mem_singleton.1 hb]; exact fun e => HIQ.out (e ▸ ha)⟩
                · rw [List.length_append, HQl.out]; have := HQI'.out.le; have := HQl.out; simp; omega
                · intro q2 hq2
                  rw [HXD.out]
                  rcases List.mem_append.1 hq2 with h | h
                  · exact HQI'.out.good q2 h
                  · rw [List.mem_singleton.1 h]; exact HGY.out
              · have hd1 : decide (120 ≤ Ql) = false := decide_eq_false h120
                have hd2 : decide ((120 : Int) ≤ (Ql : Int)) = false := decide_eq_false (by omega)
                have hd3 : ¬ (120 : Int) ≤ (Ql : Int) := by omega
                have HQ2 := Lib.hid (qu_put HQI'.out (by have := HQl.out; omega) HGY.out HIQ.out (by have := HQl.out; omega))
                have HQD2 := Lib.hid (show (Q' ++ [y]).getD k [] = q from by rw [getD_append_l (by have := HQl.out; omega)]; exact HQD'.out)
                have HDN2 := Lib.hid (show ∀ j, j < n + 1 → brL m q (P.getD j 0) ∈ Q' ++ [y] from fun j hj => by
                  rcases Nat.lt_or_ge j n with h | h
                  · exact List.mem_append_left _ (HDN.out j h)
                  · obtain rfl : j = n := by omega
                    rw [HDY.out]; exact List.mem_append_right _ (List.mem_singleton.2 rfl))
                have HLQ := Lib.hid (show Q'.length ≤ 1048576 from by have := HQl.out; omega)
                have HL2 := Lib.hid (show k < (Q' ++ [y]).length from by rw [List.length_append]; have := HQl.out; omega)
                go_wp2_with fail
                refine HIN.out.mono ?_
                rintro e w6 ⟨rfl, q6, rfl⟩
                have hb6 : Below w5.heap.size w5 (w5.drewN q6) := below_drewN q6
                have HM6 := Lib.hid (HM5.out.step hb6)
                have HP6 := Lib.hid (HP5.out.step hb6)
                have HY6 := Lib.hid (HY.out.step hb6)
                have HB6 := Lib.hid (HB5.out.trans (hb6.mono hs5))
                have hs6 : w.heap.size ≤ (w5.drewN q6).heap.size := HB6.out.size
                clear hb6 HIN
                go_wp2_with (at_builtin; go_must (refine append_rowG HM6.out HY6.out hs6 rfl rfl rfl rfl HLQ.out ?_))
                intro v7 w7 hm7 hb7 hz7 hk7
                have HM7 := Lib.hid hm7
                have HB7 := Lib.hid (hb7 w w.heap.size (Nat.le_refl _) HB6.out)
                have HP7 := Lib.hid (hk7 _ _ _ HP6.out)
                clear hm7 hb7 hz7 hk7
                go_wp2_with fail
                exact ⟨⟨n + 1, Q' ++ [y], _, rfl, by go_num, HN1.out, HQ2, HL2.out, HQD2, HDN2, HM7.out, HP7.out, HB7.out⟩, by have := HN1.out; simp [intOf]; omega⟩
          · obtain rfl : Pn = n := by omega
            have hdn : decide (Pn < Pn) = false := by simp
            have HQN1 := Lib.hid (HTN.out Q' HQI'.out hkQ HQD'.out HDN.out)
            have HKL : Hid (k + 1 ≤ Q'.length) := Lib.hid hkQ
            clear hM' hp' hb'
            go_wp2_with fail
            exact ⟨⟨k + 1, Q', _, rfl, by go_num, HKL.out, HQN1, HM'.out, HB'.out⟩, by have := HKL.out; have := HQN1.out.le; simp [intOf]; omega⟩
      · have hkl : k = Q.length := by omega
        have hQQ : QuI m x Q Q.length := by have := HQI.out; rw [hkl] at this; exact this
        have HQQ := Lib.hid hQQ
        have hd : decide (k < Q.length) = false := decide_eq_false hlt
        have HSS := Lib.hid (fun (j : Nat) (hj : j < Q.length) => srtK_step hj)
        have HSL := Lib.hid (fun (j : Nat) (hj : j ≤ Q.length) => srtK_len Q j hj)
        have HSM := Lib.hid (fun (j : Nat) (hj : j ≤ Q.length) (y : List Int) (hy : y ∈ srtK Q j) => show y.length ≤ 100 from by have := (hQQ.good y (srtK_mem Q j hj y hy)).1.2.2; omega)
        have HG15 := Lib.hid (fun (j : Nat) (hj : j < Q.length) => show (Q.getD j []).length ≤ 15 from (hQQ.good _ (getD_memL hj)).1.2.2)
        have h0m : MatA w.heap.size w.heap.size (wq.alloc (.cells #[] 25)) (.slice (some ⟨wq.heap.size, 0, none⟩) 0 0) (srtK Q 0) := (MatA.empty w.heap.size wq).mono (Nat.le_refl _) hsq
        have H0M := Lib.hid h0m
        have hb0 : Below wq.heap.size wq (wq.alloc (.cells #[] 25)) := (Below.refl _ _).alloc (Nat.le_refl _) _
        have HM0 := Lib.hid (hM.step hb0)
        have HB0 := Lib.hid (hb.trans (hb0.mono hsq))
        clear hM hb hb0 h0m hkl hQQ hlt
        generalize hQn : Q.length = Qn at *
        have HQn := Lib.hid hQn; clear hQn
        go_wp2_with fail
        go_loopw [14, 15] (fun ov i wr => ∃ (j : Nat) (wj : World), wj = wr ∧ i = .int .i64 j ∧ j ≤ Qn ∧ MatA w.heap.size w.heap.size wj ov (srtK Q j) ∧ MatA w.heap.size w.heap.size wj (.slice qa Qn qcap) Q ∧ Below w.heap.size w wj) (fun _ i _ => Qn - (intOf i).toNat)
        case atStart => exact ⟨0, _, rfl, rfl, Nat.zero_le _, H0M.out, HM0.out, HB0.out⟩
        case round =>
          obtain ⟨j, wj, rfl, rfl, hj, hO, hMj, hbj⟩ := hrel
          have HO := Lib.hid hO; have HMj := Lib.hid hMj; have HBj := Lib.hid hbj
          have hsj := hbj.size
          by_cases hjl : j < Qn
          · have hdj : decide (j < Qn) = true := decide_eq_true hjl
            obtain ⟨g, ra, rcap, _, rfl, hg, hc0, hrow0⟩ := hMj.rowA hjl
            have HPU := Lib.hid (put11s_any w.heap.size wj.heap.size _ _ (srtK Q j) (Q.getD j []) wj hO hrow0.rowB hsj (Nat.le_refl _) (by have := HSL.out j hj; omega) (HSM.out j hj) (by have := HG15.out j hjl; omega))
            rw [HSS.out j hjl] at HPU
            obtain ⟨oa, ocap, rfl⟩ := hO.slice
            clear hO hMj hbj hrow0
            generalize (Q.getD j []).length = qn at *
            generalize (srtK Q j).length = on at *
            go_wp2_with fail
            refine HPU.out.mono ?_
            rintro e w5 ⟨ov5, rfl, ho5, hb5⟩
            have HO5 := Lib.hid (ho5.mono (Nat.le_refl _) hsj)
            have HM5 := Lib.hid (HMj.out.step hb5)
            have HB5 := Lib.hid (HBj.out.trans (hb5.mono hsj))
            clear ho5 hb5 HPU
            go_wp2_with fail
            exact ⟨⟨j + 1, _, rfl, by go_num, by omega, HO5.out, HM5.out, HB5.out⟩, by simp [intOf]; omega⟩
          · obtain rfl : j = Qn := by omega
            have hdj : decide (j < j) = false := by simp
            clear hO hMj hbj
            go_wp2_with fail
            go_ret2
            exact ⟨_, true, _, rfl, HO.out, HBj.out, fun _ => ⟨Q, by rw [HXD.out, HQn.out]; exact HQQ.out, by rw [HQn.out]⟩, fun h => absurd h (by simp), fun _ => HWW.out⟩
  · rw [wordB_no hW] at HN
    have HNW := Lib.hid hW
    obtain ⟨a, cap, rfl⟩ := h.slice
    obtain ⟨a', cap', rfl⟩ := h'.slice
    clear h h' hf hW
    go_enter Try.func32, Try.ntmps32
    go_wp2_with fail
    refine HN.out.mono ?_
    rintro e w1 ⟨xv, rfl, ⟨hx, _⟩, hb1⟩
    obtain ⟨xa, xcap, rfl⟩ := hx.slice
    have HB1 := Lib.hid hb1
    clear hx hb1 HN
    go_wp2_with fail
    go_ret2
    exact ⟨_, false, [], rfl, (MatA.empty w.heap.size w1).mono (Nat.le_refl _) HB1.out.size, HB1.out.alloc HB1.out.size _, fun h => absurd h (by simp), fun _ => ⟨rfl, fun h => absurd h HNW.out⟩, fun h => absurd h (by simp)⟩
end Go.Proofs.Ytnlbmnielemgiaa
namespace Go.Proofs.Ytnlbmnielemgiaa
open Go.RowKit

theorem or_i64_nat (a b : Nat) (ha : a < 9223372036854775808) (hb : b < 9223372036854775808) :
    bits .or .i64 (a : Int) (b : Int) = ((a ||| b : Nat) : Int) := by
  have hx : a ||| b < 2 ^ 63 := Nat.or_lt_two_pow ha hb
  have h1 : (BitVec.ofInt 64 (a : Int)).toNat = a := by
    rw [BitVec.ofInt_natCast, BitVec.toNat_ofNat]; exact Nat.mod_eq_of_lt (by omega)
  have h2 : (BitVec.ofInt 64 (b : Int)).toNat = b := by
    rw [BitVec.ofInt_natCast, BitVec.toNat_ofNat]; exact Nat.mod_eq_of_lt (by omega)
  show IntKind.i64.wrap ((BitVec.ofInt 64 (a : Int) ||| BitVec.ofInt 64 (b : Int)).toNat : Int) = _
  rw [BitVec.toNat_or, h1, h2, IntKind.wrap_i64]
  omega

theorem or_low (a b i : Nat) (hb : b < 2 ^ i) : a * 2 ^ i ||| b = a * 2 ^ i + b := by
  have := Nat.two_pow_add_eq_or_of_lt hb a
  rw [Nat.mul_comm] ; omega

theorem or_byte (a b : Nat) (ha : a ≤ 281474976710655) (hb : b ≤ 255) : bits .or .i64 ((a : Int) * 256) (b : Int) = (a : Int) * 256 + b := by
  have h := or_i64_nat (a * 256) b (by omega) (by omega)
  have e := or_low a b 8 (by omega)
  rw [show ((a : Int) * 256) = ((a * 256 : Nat) : Int) by omega, h]
  rw [show (2 : Nat) ^ 8 = 256 from rfl] at e
  rw [e]; omega

theorem and127_or128 (n : Nat) : bits .or .i64 (bits .and .i64 (n : Int) 127) 128 = 128 + (n : Int) % 128 := by
  rw [i64_and127]
  have h := or_i64_nat (n % 128) 128 (by omega) (by omega)
  have e : (n % 128) ||| 128 = n % 128 + 128 := by
    have := or_low 1 (n % 128) 7 (by omega)
    rw [Nat.or_comm]; simpa [Nat.add_comm] using this
  rw [e] at h
  rw [show ((n : Int) % 128) = ((n % 128 : Nat) : Int) by omega]
  rw [show (128 : Int) = ((128 : Nat) : Int) from rfl, h]
  omega

theorem pow128 (k : Nat) : 2 ^ (7 * k) = 128 ^ k := by rw [Nat.pow_mul]

theorem or_shift (v k : Nat) (B : Int) (b : Nat) (hB : B = b) (hb : b < 256) (hv : v < 128 ^ k) (hk : k < 7) :
    bits .or .i64 (v : Int) (wrap64 (wrap64 (bits .and .u8 B 127) * 2 ^ (7 * k))) = ((v + 128 ^ k * (b % 128) : Nat) : Int) := by
  subst hB
  have e1 : bits .and .u8 (b : Int) 127 = ((b % 128 : Nat) : Int) := by
    have := u8_and_nat b 127 hb (by omega)
    rw [show ((127 : Nat) : Int) = 127 from rfl] at this
    rw [this, show b &&& 127 = b % 128 from Nat.and_two_pow_sub_one_eq_mod b 7]
  have hp : 128 ^ k ≤ 128 ^ 6 := Nat.pow_le_pow_right (by omega) (by omega)
  have hp6 : (128 : Nat) ^ 6 = 4398046511104 := by decide
  have hm : (b % 128) * 128 ^ k ≤ 127 * 4398046511104 := Nat.mul_le_mul (by omega) (by omega)
  have e2 : wrap64 ((b % 128 : Nat) : Int) = ((b % 128 : Nat) : Int) := IntWalk.wrap64_in _ ⟨by omega, by omega⟩
  have e3 : (2 : Int) ^ (7 * k) = ((128 ^ k : Nat) : Int) := by
    rw [← pow128]; simp
  have e4 : wrap64 (((b % 128 : Nat) : Int) * ((128 ^ k : Nat) : Int)) = (((b % 128) * 128 ^ k : Nat) : Int) := by
    rw [← Int.natCast_mul]
    exact IntWalk.wrap64_in _ ⟨by omega, by omega⟩
  rw [e1, e2, e3, e4, or_i64_nat _ _ (by omega) (by omega), Nat.or_comm]
  rw [← pow128] at hv ⊢
  rw [or_low _ _ _ hv, Nat.mul_comm, Nat.add_comm]

/-- A byte in a region that draws its order: the wraps that the walk leaves there. -/
theorem byte_wrap (b : UInt8) : IntKind.i64.wrap (b.toNat : Int) = (b.toNat : Int) := IntWalk.i64_in _ (by have := b.toNat_lt; omega)
theorem byte_tdiv16 (b : UInt8) : ((b.toNat : Int)).tdiv 16 = (b.toNat : Int) / 16 := Int.tdiv_eq_ediv_of_nonneg (by omega)
theorem byte_tmod16 (b : UInt8) : ((b.toNat : Int)).tmod 16 = (b.toNat : Int) % 16 := Int.tmod_eq_emod_of_nonneg (by omega)
theorem byte_wrap16 (b : UInt8) : IntKind.i64.wrap ((b.toNat : Int) / 16) = (b.toNat : Int) / 16 := IntWalk.i64_in _ (by have := b.toNat_lt; omega)

theorem byte_and15 (b : UInt8) : bits .and .u8 (b.toNat : Int) 15 = (b.toNat : Int) % 16 := by
  have := u8_and_nat b.toNat 15 b.toNat_lt (by omega)
  rw [show ((15 : Nat) : Int) = 15 from rfl] at this
  rw [this, show b.toNat &&& 15 = b.toNat % 16 from Nat.and_two_pow_sub_one_eq_mod b.toNat 4]
  omega

theorem nib_or (a b : Nat) (ha : a ≤ 15) (hb : b ≤ 15) : bits .or .u8 ((a : Int) * 16) (b : Int) = ((16 * a + b : Nat) : Int) := by
  have h := u8_or_nat (a * 16) b (by omega) (by omega)
  have e := or_low a b 4 (by omega)
  rw [show (2 : Nat) ^ 4 = 16 from rfl] at e
  rw [show ((a : Int) * 16) = ((a * 16 : Nat) : Int) by omega, h, e]
  omega
end Go.Proofs.Ytnlbmnielemgiaa
