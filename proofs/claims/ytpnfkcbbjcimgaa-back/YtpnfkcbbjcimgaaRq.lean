import Derived.Test.YtpnfkcbbjcimgaaClaims
import Derived.Laws.Rows
namespace Go.Proofs.Ytpnfkcbbjcimgaa
open Go.RowKit
/-- A request, as a call takes it. -/
structure Rq where
  kd : Int
  ac : Int
  dv : Int
  rg : Int
  cu : Int
  mo : Int
  k : Nat → BitVec 8
  m : Nat → BitVec 8
  sa : Option Addr
  sn : Nat
  sc : Nat
  tx : ByteArray
/-- Its cells. -/
def Rq.row (q : Rq) : Array Value := #[.int .i64 q.kd, .int .i64 q.ac, .int .i64 q.dv, .int .i64 q.rg, .int .i64 q.cu, .int .i64 q.mo, .int .u8 (B (q.k 0)), .int .u8 (B (q.k 1)), .int .u8 (B (q.k 2)), .int .u8 (B (q.k 3)), .int .u8 (B (q.k 4)), .int .u8 (B (q.k 5)), .int .u8 (B (q.k 6)), .int .u8 (B (q.k 7)), .int .u8 (B (q.k 8)), .int .u8 (B (q.k 9)), .int .u8 (B (q.k 10)), .int .u8 (B (q.k 11)), .int .u8 (B (q.k 12)), .int .u8 (B (q.k 13)), .int .u8 (B (q.k 14)), .int .u8 (B (q.k 15)), .int .u8 (B (q.m 0)), .int .u8 (B (q.m 1)), .int .u8 (B (q.m 2)), .int .u8 (B (q.m 3)), .int .u8 (B (q.m 4)), .int .u8 (B (q.m 5)), .int .u8 (B (q.m 6)), .int .u8 (B (q.m 7)), .slice q.sa q.sn q.sc, .string q.tx]
def Rq.key (q : Rq) : List Int := keyL (q.k 0) (q.k 1) (q.k 2) (q.k 3) (q.k 4) (q.k 5) (q.k 6) (q.k 7) (q.k 8) (q.k 9) (q.k 10) (q.k 11) (q.k 12) (q.k 13) (q.k 14) (q.k 15)
def Rq.mac (q : Rq) : List Int := macL (q.m 0) (q.m 1) (q.m 2) (q.m 3) (q.m 4) (q.m 5) (q.m 6) (q.m 7)
theorem row_0 (q : Rq) : q.row[0]? = some (.int .i64 q.kd) := rfl
theorem row_1 (q : Rq) : q.row[1]? = some (.int .i64 q.ac) := rfl
theorem row_2 (q : Rq) : q.row[2]? = some (.int .i64 q.dv) := rfl
theorem row_3 (q : Rq) : q.row[3]? = some (.int .i64 q.rg) := rfl
theorem row_4 (q : Rq) : q.row[4]? = some (.int .i64 q.cu) := rfl
theorem row_5 (q : Rq) : q.row[5]? = some (.int .i64 q.mo) := rfl
theorem row_6 (q : Rq) : q.row[6]? = some (.int .u8 (B (q.k 0))) := rfl
theorem row_7 (q : Rq) : q.row[7]? = some (.int .u8 (B (q.k 1))) := rfl
theorem row_8 (q : Rq) : q.row[8]? = some (.int .u8 (B (q.k 2))) := rfl
theorem row_9 (q : Rq) : q.row[9]? = some (.int .u8 (B (q.k 3))) := rfl
theorem row_10 (q : Rq) : q.row[10]? = some (.int .u8 (B (q.k 4))) := rfl
theorem row_11 (q : Rq) : q.row[11]? = some (.int .u8 (B (q.k 5))) := rfl
theorem row_12 (q : Rq) : q.row[12]? = some (.int .u8 (B (q.k 6))) := rfl
theorem row_13 (q : Rq) : q.row[13]? = some (.int .u8 (B (q.k 7))) := rfl
theorem row_14 (q : Rq) : q.row[14]? = some (.int .u8 (B (q.k 8))) := rfl
theorem row_15 (q : Rq) : q.row[15]? = some (.int .u8 (B (q.k 9))) := rfl
theorem row_16 (q : Rq) : q.row[16]? = some (.int .u8 (B (q.k 10))) := rfl
theorem row_17 (q : Rq) : q.row[17]? = some (.int .u8 (B (q.k 11))) := rfl
theorem row_18 (q : Rq) : q.row[18]? = some (.int .u8 (B (q.k 12))) := rfl
theorem row_19 (q : Rq) : q.row[19]? = some (.int .u8 (B (q.k 13))) := rfl
theorem row_20 (q : Rq) : q.row[20]? = some (.int .u8 (B (q.k 14))) := rfl
theorem row_21 (q : Rq) : q.row[21]? = some (.int .u8 (B (q.k 15))) := rfl
theorem row_22 (q : Rq) : q.row[22]? = some (.int .u8 (B (q.m 0))) := rfl
theorem row_23 (q : Rq) : q.row[23]? = some (.int .u8 (B (q.m 1))) := rfl
theorem row_24 (q : Rq) : q.row[24]? = some (.int .u8 (B (q.m 2))) := rfl
theorem row_25 (q : Rq) : q.row[25]? = some (.int .u8 (B (q.m 3))) := rfl
theorem row_26 (q : Rq) : q.row[26]? = some (.int .u8 (B (q.m 4))) := rfl
theorem row_27 (q : Rq) : q.row[27]? = some (.int .u8 (B (q.m 5))) := rfl
theorem row_28 (q : Rq) : q.row[28]? = some (.int .u8 (B (q.m 6))) := rfl
theorem row_29 (q : Rq) : q.row[29]? = some (.int .u8 (B (q.m 7))) := rfl
theorem row_30 (q : Rq) : q.row[30]? = some (.slice q.sa q.sn q.sc) := rfl
theorem row_31 (q : Rq) : q.row[31]? = some (.string q.tx) := rfl

theorem row_size (q : Rq) : q.row.size = 32 := rfl
theorem info28 : (Try.prog.info? 28).map (·.size) = some 32 := by kernel_rfl
/-- A whole request is loaded out of a block of its own. -/
theorem wpList_load_req {w : World} {ops : Array Oper} {rest : List Oper} {o : Oper} {a : Act} {Q : Exit → Act → World → Prop} (hw : Region.wanted o (yielded ops a.tmps) = true) (x : Operand) (ho : o.op = .load 28 x)
    (g : Nat) (hx : a.eval x = .pointer (some ⟨g, 0, none⟩)) (q : Rq) (hg : w.heap[g]? = some (.cells q.row 28)) (h : wpList Try.prog ops Q rest (a.put o.dst (.agg q.row)) w) : wpList Try.prog ops Q (o :: rest) a w := by
  refine wpList_step fun K hK => ?_
  rw [if_pos hw]
  exact wp_load_row 28 x ho g hx 28 q.row (0, 0) _ hg Try.underlying28 rfl (by rw [row_size]; exact info28) (hK _ _ h)
/-- A block's cells, as they read in a world. -/
def Row (w : World) (b : Nat) (A : Array Value) : Prop := ∀ i, w.cell? ⟨b, i, none⟩ = A[i]?
theorem Row.of {w : World} {b : Nat} {A : Array Value} {t : TypeId} (h : w.heap[b]? = some (.cells A t)) : Row w b A := fun i => cell_of_row w b i A t (0, 0) h
theorem blk_later {w wx : World} {b : Nat} {o : Obj} (hb : Below w.heap.size w wx) (hlt : b < w.heap.size) (h : w.heap[b]? = some o) : wx.heap[b]? = some o := (hb.block b hlt).trans h
theorem blk_alloc {w : World} {b : Nat} {o : Obj} (hlt : b < w.heap.size) (h : w.heap[b]? = some o) (p : Obj) : (w.alloc p).heap[b]? = some o := blk_later ((Below.refl _ _).alloc (Nat.le_refl _) _) hlt h
theorem blk_newest {w : World} {n : Nat} (hn : w.heap.size = n) (o : Obj) : (w.alloc o).heap[n]? = some o := by subst hn; exact heap_alloc_new w o
theorem holdNumbers_q (b : Bd) (q : Rq) (w : World) : Calls Try.prog 52 #[bdV b, .agg q.row] w fun e w' => e = .returned (.bool (numB b q.ac q.dv q.rg q.cu q.mo)) ∧ Below w.heap.size w w' :=
  holdNumbers_any b q.kd q.ac q.dv q.rg q.cu q.mo (q.k 0) (q.k 1) (q.k 2) (q.k 3) (q.k 4) (q.k 5) (q.k 6) (q.k 7) (q.k 8) (q.k 9) (q.k 10) (q.k 11) (q.k 12) (q.k 13) (q.k 14) (q.k 15) (q.m 0) (q.m 1) (q.m 2) (q.m 3) (q.m 4) (q.m 5) (q.m 6) (q.m 7) q.sa q.sn q.sc q.tx w
theorem holdArrays_q (b : Bd) (q : Rq) (w : World) : Calls Try.prog 53 #[bdV b, .agg q.row] w fun e w' => e = .returned (.bool (arrB b q.key q.mac)) ∧ Below w.heap.size w w' :=
  holdArrays_any b q.kd q.ac q.dv q.rg q.cu q.mo (q.k 0) (q.k 1) (q.k 2) (q.k 3) (q.k 4) (q.k 5) (q.k 6) (q.k 7) (q.k 8) (q.k 9) (q.k 10) (q.k 11) (q.k 12) (q.k 13) (q.k 14) (q.k 15) (q.m 0) (q.m 1) (q.m 2) (q.m 3) (q.m 4) (q.m 5) (q.m 6) (q.m 7) q.sa q.sn q.sc q.tx w
end Go.Proofs.Ytpnfkcbbjcimgaa
