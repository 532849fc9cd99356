/- The program's own name: all its contracts. -/
import Derived.Test.YtpkdnockbbppiaaNU
