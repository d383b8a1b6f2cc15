/-
  LAYER 6 (norm): NFD of a list.
-/
import Derived.Test.YtpdacbiiaglodaaGreatQC30
import Derived.Test.YtpdacbiiaglodaaGreatQC22
import Derived.RangeFuncBox
import Derived.RangeFuncNested
import Derived.Test.YtpdacbiiaglodaaGreatQC03
import Derived.Test.YtpdacbiiaglodaaGreatRows
import Derived.Laws.BytesString
import Derived.Laws.CopyOwn
namespace Go.Proofs.YtpdacbiiaglodaaGreat
set_option maxRecDepth 100000
open Go.RowKit Go.Lib

set_option maxHeartbeats 8000000 in
theorem nfd_any (p v : Value) (cf : Int → Int) (df : Int → List Int) (F : Nat → Prop) (l : List Int) (w : World) (hN : ND p cf df F w) (hR : RS w v l) (hsc : allSc l = true) (hl : l.length ≤ 4096) (hv : l ≠ [] → ∀ k, v.ownBlock = some k → p ≠ .pointer (some ⟨k, 0, none⟩)) (hfl : (l.flatMap df).length < 549755813888) :
    Calls Tryz.prog 38 #[p, v] w fun e w' => ∃ a n, e = .returned (.tuple #[.slice a n n, .int .i64 0]) ∧ n = (l.flatMap df).length ∧ RO w.heap.size w' (.slice a n n) (ord cf (l.flatMap df)) ∧ ∃ F' : Nat → Prop, ND p cf df F' w' ∧ (∀ k, F k → F' k) ∧ (∀ k, F' k → F k ∨ w.heap.size ≤ k) ∧ GX (fun k => p = .pointer (some ⟨k, 0, none⟩)) w w' := by
  have hC := containsFunc_any v l w hR (by omega)
  rw [hsc] at hC
  have hNew := new_strm p cf df F w hN
  have hmf : ∀ (fn : Fn) (first cap : Array Value) (w : World), (Instr.makeFunc fn first cap).run Tryz.prog w = .ok (.func fn first cap) w := fun _ _ _ _ => rfl
  have hT := fun W (hS : Strm W w.heap.size p cf df F (.slice none 0 0) []) (hg : w.grownBy W none) => told_any w.heap.size p v cf df F l W hS (hR.new hg) (fun r hr => by rw [allSc, List.all_eq_true] at hsc; exact hsc r hr) (fun hne k e => ⟨fun h => by have := hR.lt hne k e; omega, hv hne k e⟩) (by omega) hfl
  have hpl := psh_len cf (l.flatMap df) []
  have hpo := psh_ord cf (l.flatMap df) []
  rw [List.nil_append] at hpo
  have hE := fun W hv' F' (hS : Strm W w.heap.size p cf df F' hv' (psh cf [] (l.flatMap df)).2) => end_any w.heap.size p cf df F' hv' _ W hS (by simp only [List.length_nil] at hpl; omega)
  unfold TInv at hT
  obtain ⟨a, c, rfl, _⟩ := hR
  generalize psh cf [] (l.flatMap df) = po at hT hpl hpo hE
  obtain ⟨o, h1⟩ := po
  dsimp only at hT hpl hpo hE
  have HPO := Lib.hid hpo
  have hol : o.length + h1.length = (l.flatMap df).length := by simpa using hpl
  obtain ⟨n, hn⟩ : ∃ n, n = l.length := ⟨_, rfl⟩
  rw [← hn] at hC hT hl ⊢
  have HOL := Lib.hid hol
  have HFL := Lib.hid hfl
  clear hn hpl hpo hol hfl hN hsc hv
  go_enter Tryz.func38, Tryz.ntmps38
  go_wp2_with (first
    | (go_at_call 72; refine hC.mono ?_; rintro e w' ⟨rfl, rfl⟩)
    | (go_at_call 31; refine hNew.mono ?_; rintro e w1 ⟨rfl, hS1, hg1⟩; have hlt1 := hS1.at_.lt)
    | (go_at_call 74; refine (hT _ hS1 hg1).mono ?_; rintro e w2 ⟨v2, rfl, hv2, F2, o2, S2, t1, t2, t3, t4, t5⟩; obtain ⟨a2, n2, rfl⟩ := o2.form; have hsz2 := t5.size; have hE2 := hE _ _ _ S2)
    | (go_at_call 36; refine hE2.mono ?_; rintro e w3 ⟨a3, rfl, hr3, S3, hg3⟩; have o3 := o2.kept hg3 (fun k e e' => by cases e'; have := (o2.lt _ e).1; omega))
    | (at_builtin; refine wpList_append_rs _ rfl _ _ 50 rfl w1.heap.size Tryz.underlying50 (.slice a2 o.length n2) o rfl o3 (.slice a3 h1.length h1.length) (ord cf h1) rfl hr3.reads (by rw [ord_length]; have := HOL.out; have := HFL.out; omega) (by have := hg3.size; omega) ?_; intro v4 w4 ho4 hg4 hb4; obtain ⟨a4, m4, rfl⟩ := ho4.form; have hcl := clip_any w1.heap.size _ _ w4 ho4.ro (by rw [List.length_append, ord_length]; have := HOL.out; have := HFL.out; omega); rw [List.length_append] at hcl)
    | (go_at_call 69; refine hcl.mono ?_; rintro e w5 ⟨a5, rfl, hr5, rfl⟩))
  go_ret2
  have hfin : GX (fun k => p = .pointer (some ⟨k, 0, none⟩)) w w4 := (((GX.of hg1 (by simp)).trans t5 (fun k hk => hk.imp id (fun h => by omega))).step hg3 (fun k e => .inr (by cases e; exact Nat.le_refl _))).step hg4 (fun k e => .inr (by have := (o2.lt k e).1; omega))
  refine ⟨a5, o.length + (ord cf h1).length, rfl, by rw [ord_length]; exact HOL.out, ?_, F2, S3.nd.grown hg4 (fun k e => (t3 k e).1), t1, fun k hk => (t2 k hk).imp id (fun h => by omega), hfin⟩
  rw [HPO.out]
  exact hr5.low (by omega)
theorem nfd_bad (p v : Value) (l : List Int) (w : World) (hR : RS w v l) (hsc : allSc l = false) (hlen : l.length < 1099511627776) :
    Calls Tryz.prog 38 #[p, v] w fun e w' => e = .returned (.tuple #[.slice none 0 0, .int .i64 41]) ∧ w = w' := by
  have hC := containsFunc_any v l w hR hlen
  rw [hsc] at hC
  obtain ⟨a, c, rfl, _⟩ := hR
  generalize l.length = n at hC ⊢
  go_enter Tryz.func38, Tryz.ntmps38
  go_wp2_with (go_at_call 72; refine hC.mono ?_; rintro e w' ⟨rfl, rfl⟩)
  go_ret2
  exact ⟨rfl, rfl⟩
theorem nfd_long (p v : Value) (l : List Int) (w : World) (hR : RS w v l) (hsc : allSc l = true) (hl : 4096 < l.length) (hlen : l.length < 1099511627776) :
    Calls Tryz.prog 38 #[p, v] w fun e w' => e = .returned (.tuple #[.slice none 0 0, .int .i64 2]) ∧ w = w' := by
  have hC := containsFunc_any v l w hR hlen
  rw [hsc] at hC
  obtain ⟨a, c, rfl, _⟩ := hR
  generalize l.length = n at hC hl hlen ⊢
  go_enter Tryz.func38, Tryz.ntmps38
  go_wp2_with (go_at_call 72; refine hC.mono ?_; rintro e w' ⟨rfl, rfl⟩)
  go_ret2
  exact ⟨rfl, rfl⟩
end Go.Proofs.YtpdacbiiaglodaaGreat

/-
  LAYER 4 (utf): the reference's form of a scalar.
-/
namespace Go.Proofs.YtpdacbiiaglodaaGreat.U
set_option maxRecDepth 100000
open Go.RowKit Go.Lib

theorem owns_lit {w : World} {e : TypeId} {bs : List UInt8} {cs : Array Value} {n : Nat} (hc : cs = (byteCells bs).toArray) (hn : bs.length = n) (hm : n ≤ maxLen) :
    Owns (w.alloc (.cells cs e)) w.heap.size e (.slice (some ⟨w.heap.size, 0, none⟩) n n) bs := by
  subst hn
  subst hc
  have hl : (byteCells bs).length = bs.length := by simp [byteCells]
  exact ⟨by simp [hl], .inr ⟨w.heap.size, _, _, rfl, Nat.le_refl _, World.alloc_heap_new w _, Nat.le_refl _, hm, by simp [hl], by simp [hl, List.take_of_length_le]⟩⟩

theorem form_cells1 {r : Nat} (h1 : r < 128) : #[Value.int .u8 (r : Int)] = (byteCells (form r)).toArray ∧ (form r).length = 1 := by
  rw [form, if_pos h1]
  simp only [byteCells, List.map, ofNat_toNat (show r < 256 by omega)]
  exact ⟨trivial, rfl⟩

theorem form_cells2 {r : Nat} (h1 : ¬ r < 128) (h2 : r < 2048) : #[Value.int .u8 (192 + (r : Int) / 64), Value.int .u8 (128 + (r : Int) % 64)] = (byteCells (form r)).toArray ∧ (form r).length = 2 := by
  rw [form, if_neg h1, if_pos h2]
  simp only [byteCells, List.map, ofNat_toNat (show 192 + r / 64 < 256 by omega), ofNat_toNat (show 128 + r % 64 < 256 by omega)]
  exact ⟨rfl, rfl⟩
theorem form_cells3 {r x y z : Nat} (h2 : ¬ r < 2048) (h3 : r < 65536) (hx : (r : Int) / 4096 = (x : Int)) (hy : (r : Int) / 64 % 64 = (y : Int)) (hz : (r : Int) % 64 = (z : Int)) :
    #[Value.int .u8 (224 + (x : Int)), Value.int .u8 (128 + (y : Int)), Value.int .u8 (128 + (z : Int))] = (byteCells (form r)).toArray ∧ (form r).length = 3 := by
  rw [form, if_neg (by omega), if_neg h2, if_pos h3]
  obtain rfl : r / 4096 = x := by omega
  obtain rfl : r / 64 % 64 = y := by omega
  obtain rfl : r % 64 = z := by omega
  simp only [byteCells, List.map, ofNat_toNat (show 224 + r / 4096 < 256 by omega), ofNat_toNat (show 128 + r / 64 % 64 < 256 by omega), ofNat_toNat (show 128 + r % 64 < 256 by omega)]
  exact ⟨rfl, rfl⟩
theorem form_cells4 {r u x y z : Nat} (h3 : ¬ r < 65536) (hr : r ≤ 1114111) (hu : (r : Int) / 262144 = (u : Int)) (hx : (r : Int) / 4096 % 64 = (x : Int)) (hy : (r : Int) / 64 % 64 = (y : Int)) (hz : (r : Int) % 64 = (z : Int)) :
    #[Value.int .u8 (240 + (u : Int)), Value.int .u8 (128 + (x : Int)), Value.int .u8 (128 + (y : Int)), Value.int .u8 (128 + (z : Int))] = (byteCells (form r)).toArray ∧ (form r).length = 4 := by
  rw [form, if_neg (by omega), if_neg (by omega), if_neg h3]
  obtain rfl : r / 262144 = u := by omega
  obtain rfl : r / 4096 % 64 = x := by omega
  obtain rfl : r / 64 % 64 = y := by omega
  obtain rfl : r % 64 = z := by omega
  simp only [byteCells, List.map, ofNat_toNat (show 240 + r / 262144 < 256 by omega), ofNat_toNat (show 128 + r / 4096 % 64 < 256 by omega), ofNat_toNat (show 128 + r / 64 % 64 < 256 by omega), ofNat_toNat (show 128 + r % 64 < 256 by omega)]
  exact ⟨rfl, rfl⟩

set_option maxRecDepth 100000 in
set_option maxHeartbeats 1000000 in
theorem form_any (r : Nat) (w : World) (hr : r ≤ 1114111) :
    Calls Tryz.prog 105 #[.int .i32 (r : Int)] w fun e w' => ∃ v, e = .returned v ∧ Owns w' w.heap.size 5 v (form r) ∧ w.grownBy w' none := by
  by_cases h1 : r < 128
  · have hf := form_cells1 h1
    have H := Lib.hid hf; clear hf
    go_enter Tryz.func105, Tryz.ntmps105
    go_wp2
    go_ret
    exact ⟨_, rfl, owns_lit H.out.1 H.out.2 (by decide), World.grownBy_alloc w _ none⟩
  · by_cases h2 : r < 2048
    · have H := Lib.hid (form_cells2 h1 h2)
      go_enter Tryz.func105, Tryz.ntmps105
      go_wp2
      go_ret
      exact ⟨_, rfl, owns_lit H.out.1 H.out.2 (by decide), World.grownBy_alloc w _ none⟩
    · by_cases h3 : r < 65536
      · obtain ⟨x, hx, hxb⟩ : ∃ x : Nat, (r : Int) / 4096 = (x : Int) ∧ x ≤ 15 := ⟨r / 4096, by omega, by omega⟩
        obtain ⟨y, hy, hyb⟩ : ∃ y : Nat, (r : Int) / 64 % 64 = (y : Int) ∧ y ≤ 63 := ⟨r / 64 % 64, by omega, by omega⟩
        obtain ⟨z, hz, hzb⟩ : ∃ z : Nat, (r : Int) % 64 = (z : Int) ∧ z ≤ 63 := ⟨r % 64, by omega, by omega⟩
        have d1 : decide ((r : Int) < 128) = false := by simp; omega
        have d2 : decide ((r : Int) < 2048) = false := by simp; omega
        have d3 : decide ((r : Int) < 65536) = true := by simp; omega
        have H := Lib.hid (form_cells3 h2 h3 hx hy hz)
        clear h1 h2 h3 hr
        go_enter Tryz.func105, Tryz.ntmps105
        go_wp2
        go_ret
        exact ⟨_, rfl, owns_lit H.out.1 H.out.2 (by decide), World.grownBy_alloc w _ none⟩
      · obtain ⟨u, hu, hub⟩ : ∃ u : Nat, (r : Int) / 262144 = (u : Int) ∧ u ≤ 4 := ⟨r / 262144, by omega, by omega⟩
        obtain ⟨x, hx, hxb⟩ : ∃ x : Nat, (r : Int) / 4096 % 64 = (x : Int) ∧ x ≤ 63 := ⟨r / 4096 % 64, by omega, by omega⟩
        obtain ⟨y, hy, hyb⟩ : ∃ y : Nat, (r : Int) / 64 % 64 = (y : Int) ∧ y ≤ 63 := ⟨r / 64 % 64, by omega, by omega⟩
        obtain ⟨z, hz, hzb⟩ : ∃ z : Nat, (r : Int) % 64 = (z : Int) ∧ z ≤ 63 := ⟨r % 64, by omega, by omega⟩
        have d1 : decide ((r : Int) < 128) = false := by simp; omega
        have d2 : decide ((r : Int) < 2048) = false := by simp; omega
        have d3 : decide ((r : Int) < 65536) = false := by simp; omega
        have H := Lib.hid (form_cells4 h3 hr hu hx hy hz)
        clear h1 h2 h3 hr
        go_enter Tryz.func105, Tryz.ntmps105
        go_wp2
        go_ret
        exact ⟨_, rfl, owns_lit H.out.1 H.out.2 (by decide), World.grownBy_alloc w _ none⟩
end Go.Proofs.YtpdacbiiaglodaaGreat.U

/-
  Bytes of the call's own: appends, and string(b) of bytes that a slice reads as.
-/
namespace Go.Proofs.YtpdacbiiaglodaaGreat.U
set_option maxRecDepth 100000
open Go.RowKit Go.Lib

theorem infoU8 : (Tryz.prog.info? 5).map (fun i => (i.zero, i.size, i.bytes)) = some (some (.int .u8 0), 1, 1) := by kernel_rfl
theorem sizeU8 : (Tryz.prog.info? 5).map (·.size) = some 1 := by kernel_rfl

/-- An own row, laid anew. -/
theorem owns_block {w : World} {B g cap : Nat} {e : TypeId} {bs : List UInt8} (hB : B ≤ g) (hg : w.heap[g]? = some (.cells (byteCells bs).toArray e (0, 0))) (hm : bs.length ≤ maxLen) (hc : cap = bs.length) :
    Owns w B e (.slice (some ⟨g, 0, none⟩) bs.length cap) bs := by
  subst hc
  have hl : (byteCells bs).length = bs.length := by simp [byteCells]
  exact ⟨by simp [hl], .inr ⟨g, _, _, rfl, hB, hg, Nat.le_refl _, hm, by simp [hl], by simp [hl, List.take_of_length_le]⟩⟩

theorem byteCells_one (bs : List UInt8) : ∀ v ∈ byteCells bs, v.oneCell' = true := by
  intro v hv
  simp only [byteCells, List.mem_map] at hv
  obtain ⟨u, _, rfl⟩ := hv
  rfl

/-- The cells of what is read, from an address on. -/
theorem _root_.Go.Proofs.YtpdacbiiaglodaaGreat.Reads.ucells {w : World} {a : Addr} {l c : Nat} {bs : List UInt8} (h : Reads w (.slice (some a) l c) bs) : ∀ j v, (byteCells bs)[j]? = some v → w.cell? (a.add j) = some v := by
  rcases h with ⟨h, rfl⟩ | ⟨b, off, cap, h, h1, h2, hc⟩
  · simp at h
  · simp at h
    obtain ⟨rfl, rfl, rfl⟩ := h
    intro j v hv
    rw [byteCells_get] at hv
    obtain ⟨u, hu, rfl⟩ := Option.map_eq_some_iff.1 hv
    have := hc j u hu
    have e : (⟨b, off, none⟩ : Addr).add j = ⟨b, off + j, none⟩ := by unfold Addr.add; split <;> simp_all
    rw [e]
    exact this

theorem byteCells_len (bs : List UInt8) : (byteCells bs).length = bs.length := by simp [byteCells]

/-- 'append(out, f...)' at bytes: out the call's own (or nil), f whatever reads as bytes, nil too. -/
theorem wpList_append_bytes {P : Program} (w : World) {ops : Array Oper} {rest : List Oper} {o : Oper} {a : Act} {Q : Exit → Act → World → Prop} (hgd : o.guard = none) (s x : Operand) (t : TypeId)
    (ho : o.op = .call { callee := .builtin .append, args := #[s, x], argTypes := #[t, t] })
    (base : Nat) (e : TypeId) (i : TypeInfo) (ht : P.underlying t = some (.slice e)) (hi : P.info? e = some i) (hz : i.zero = some (.int .u8 0)) (hsize : i.size = 1) (hby : i.bytes = 1)
    (v : Value) (bs : List UInt8) (hs : a.eval s = v) (hown : Owns w base e v bs) (xv : Value) (f : List UInt8) (hx : a.eval x = xv) (hr : Reads w xv f)
    (hlim : bs.length + f.length ≤ 140737488355328) (hbase : base ≤ w.heap.size)
    (h : ∀ v' w', Owns w' base e v' (bs ++ f) → w.grownBy w' v.ownBlock → wpList P ops Q rest (a.put o.dst v') w') : wpList P ops Q (o :: rest) a w := by
  have hr0 := hr
  rcases hr with ⟨rfl, rfl⟩ | ⟨b, off, cap, rfl, _, _, _⟩
  · refine wpList_plain hgd fun K hK => ?_
    have hrun := run_append_owned_none (P := P) w base t o.type e i 1 ht hi v _ _ hown
    unfold Oper.wp execOp
    simp only [ho, resolve, invoke, builtin, Sem.run_bind, Sem.run_pure, Result.andThen_ok, List.map_toArray, List.map_cons, List.map_nil, hs, hx, hrun]
    exact hK _ _ (h v w (by simpa using hown) (World.grownBy.refl _ _))
  · refine wpList_append_own w hgd s x t ho base e i (.int .u8 0) 1 1 ht hi hz hsize hby rfl (by decide) v bs.length (byteCells bs) hs hown ⟨b, off, none⟩ f.length cap (byteCells f) hx (by rw [byteCells_len]; omega) hr0.ucells (byteCells_one f) (by unfold maxLen; omega) (by omega) hbase fun v' w' h2 h3 _ => h v' w' ?_ h3
    unfold Owns
    rw [byteCells_append, List.length_append]
    exact h2

theorem fold_push : ∀ (bs p : List UInt8), ((bs.map fun u => (u.toNat : Int)).foldl (fun (r : ByteArray) n => r.push (UInt8.ofNat n.toNat)) ⟨p.toArray⟩) = ⟨(p ++ bs).toArray⟩
  | [], p => by simp
  | u :: bs, p => by
    have h := fold_push bs (p ++ [u])
    simp only [List.map_cons, List.foldl_cons, Int.toNat_natCast, UInt8.ofNat_toNat]
    have e : (⟨p.toArray⟩ : ByteArray).push u = ⟨(p ++ [u]).toArray⟩ := by
      show ByteArray.mk _ = ByteArray.mk _
      simp
    rw [e, h, List.append_assoc]
    rfl

theorem conv_of {w : World} {v : Value} {bs : List UInt8} (h : Reads w v bs) : (convert 27 9 v).run Tryz.prog w = .ok (.string ⟨bs.toArray⟩) w := by
  have h0 := h
  rcases h with ⟨rfl, rfl⟩ | ⟨b, off, cap, rfl, _, _, _⟩
  · rw [run_convert_bytes_string w 27 9 5 none 0 0 Tryz.underlying27 Tryz.underlying5 Tryz.underlying9]
    simp [Conv.bytesToString]
    rfl
  · rw [run_convert_bytes_string w 27 9 5 _ _ _ Tryz.underlying27 Tryz.underlying5 Tryz.underlying9]
    have hl := run_loadCells_list (P := Tryz.prog) w ⟨b, off, none⟩ (byteCells bs) h0.ucells
    have e : byteCells bs = (bs.map fun u => (u.toNat : Int)).map (Value.int .u8) := by simp [byteCells]
    rw [byteCells_len, e] at hl
    rw [run_bytesToString w _ _ _ _ hl]
    have := fold_push bs []
    simp only [List.nil_append] at this
    exact congrArg (fun s => Result.ok (Value.string s) w) this
end Go.Proofs.YtpdacbiiaglodaaGreat.U
